package impl

// MaxText is the largest number of characters of a text.
const MaxText = 60

// SignNumber is the cell before digits.
const SignNumber = 60

// SignCapital is the cell before capital letters.
const SignCapital = 32

// SignLetter is the cell before letters that could be read as digits.
const SignLetter = 48

// readSmall is a mode of the reader: letters are small.
const readSmall = 0

// readDigits is a mode of the reader: cells that could be digits are.
const readDigits = 1

// readCapital is a mode of the reader: the next letter is a capital one.
const readCapital = 2

// readCapitals is a mode of the reader: all letters of the run are capital.
const readCapitals = 3

// ValidText reports whether a text is valid.
func ValidText(s string) bool {
	if len(s) > MaxText {
		return false
	}
	for i := 0; i < len(s); i++ {
		if !isLetter(s[i]) && charCell(s[i]) < 0 {
			return false
		}
	}
	return true
}

// PlainCells returns the cells of a text without contractions.
func PlainCells(s string) []int {
	if !ValidText(s) {
		return nil
	}
	var cells []int
	at := 0
	for at < len(s) {
		to := chunkEnd(s, at)
		cells = append(cells, chunkCells(s, at, to)...)
		at = to
	}
	return cells
}

// PlainText returns the text of cells without contractions.
func PlainText(cells []int) (string, bool) {
	if !ValidCells(cells) {
		return "", false
	}
	text, ok := readPlain(cells)
	// The reader takes signs where none is due, so that what it has read counts
	// only if it is written in the same cells.
	if !ok || !sameCells(PlainCells(text), cells) {
		return "", false
	}
	return text, true
}

// isSmall reports whether a character is a small letter.
func isSmall(c byte) bool {
	return c >= 'a' && c <= 'z'
}

// isCapital reports whether a character is a capital letter.
func isCapital(c byte) bool {
	return c >= 'A' && c <= 'Z'
}

// isLetter reports whether a character is a letter.
func isLetter(c byte) bool {
	return isSmall(c) || isCapital(c)
}

// isDigit reports whether a character is a digit.
func isDigit(c byte) bool {
	return c >= '0' && c <= '9'
}

// digitBefore reports whether there is a digit directly before an index.
func digitBefore(s string, at int) bool {
	return at > 0 && isDigit(s[at-1])
}

// letterNumber returns the number of a small or capital letter.
func letterNumber(c byte) int {
	if isCapital(c) {
		return int(c - 'A')
	}
	return int(c - 'a')
}

// charCell returns the cell of a space, a digit or a punctuation mark, and -1
// for all other characters.
func charCell(c byte) int {
	if c == ' ' {
		return 0
	}
	if isDigit(c) {
		return DigitCell(int(c - '0'))
	}
	return MarkCell(string([]byte{c}))
}

// runEnd returns the index behind the run of letters that begins at an index.
func runEnd(s string, at int) int {
	end := at
	for end < len(s) && isLetter(s[end]) {
		end++
	}
	return end
}

// chunkEnd returns the index behind the chunk of a text that begins at an
// index. A chunk is a run of letters, or one other character.
func chunkEnd(s string, at int) int {
	if isLetter(s[at]) {
		return runEnd(s, at)
	}
	return at + 1
}

// chunkCells returns the cells of a chunk of a text without contractions.
func chunkCells(s string, from int, to int) []int {
	if isLetter(s[from]) {
		return runCells(s, from, to)
	}
	var cells []int
	if isDigit(s[from]) && !digitBefore(s, from) {
		cells = append(cells, SignNumber)
	}
	return append(cells, charCell(s[from]))
}

// allCapital reports whether a run has two letters or more, all of them
// capital.
func allCapital(s string, from int, to int) bool {
	for i := from; i < to; i++ {
		if !isCapital(s[i]) {
			return false
		}
	}
	return to-from >= 2
}

// runCells returns the cells of a run of letters, with its signs.
func runCells(s string, from int, to int) []int {
	var cells []int
	whole := allCapital(s, from, to)
	if whole {
		cells = append(cells, SignCapital, SignCapital)
	}
	if isSmall(s[from]) && letterNumber(s[from]) < decade && digitBefore(s, from) {
		cells = append(cells, SignLetter)
	}
	for i := from; i < to; i++ {
		if isCapital(s[i]) && !whole {
			cells = append(cells, SignCapital)
		}
		cells = append(cells, LetterCell(letterNumber(s[i])))
	}
	return cells
}

// readPlain returns a text that the cells may show, whether all signs are due
// or not. It has no text for a cell that is none of a character or a sign.
func readPlain(cells []int) (string, bool) {
	var text []byte
	mode := readSmall
	for _, cell := range cells {
		if isSign(cell) {
			mode = modeAtSign(mode, cell)
			continue
		}
		c := charOf(mode, cell)
		if c == 0 {
			return "", false
		}
		text = append(text, c)
		mode = modeBehind(mode, c)
	}
	return string(text), true
}

// isSign reports whether a cell is a sign, which shows no character.
func isSign(cell int) bool {
	return cell == SignNumber || cell == SignCapital || cell == SignLetter
}

// modeAtSign returns the mode of the reader behind a sign.
func modeAtSign(mode int, sign int) int {
	if sign == SignNumber {
		return readDigits
	}
	if sign == SignLetter {
		return readSmall
	}
	if mode == readCapital {
		return readCapitals
	}
	return readCapital
}

// modeBehind returns the mode of the reader behind a character.
func modeBehind(mode int, c byte) int {
	if mode == readDigits && isDigit(c) || mode == readCapitals && isLetter(c) {
		return mode
	}
	return readSmall
}

// charOf returns the character that a cell shows in a mode of the reader, and
// 0 if it shows none.
func charOf(mode int, cell int) byte {
	if cell == 0 {
		return ' '
	}
	if mode == readDigits && DigitOf(cell) >= 0 {
		return byte('0' + DigitOf(cell))
	}
	n := LetterOf(cell)
	if n < 0 {
		return markOf(cell)
	}
	if mode == readCapital || mode == readCapitals {
		return byte('A' + n)
	}
	return byte('a' + n)
}

// sameCells reports whether two lists have the same cells.
func sameCells(a []int, b []int) bool {
	if len(a) != len(b) {
		return false
	}
	for i := range a {
		if a[i] != b[i] {
			return false
		}
	}
	return true
}
