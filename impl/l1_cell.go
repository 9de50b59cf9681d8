package impl

// MaxCells is the largest number of cells of a list.
const MaxCells = 200

// dotCount is the number of dots of a cell.
const dotCount = 6

// cellCount is the number of different cells: each dot is raised or not.
const cellCount = 64

// ValidCells reports whether a list has cells alone.
func ValidCells(list []int) bool {
	if len(list) > MaxCells {
		return false
	}
	for _, cell := range list {
		if !isCell(cell) {
			return false
		}
	}
	return true
}

// DotsOf returns the dots of a cell.
func DotsOf(cell int) []int {
	if !isCell(cell) {
		return nil
	}
	var dots []int
	for dot := 1; dot <= dotCount; dot++ {
		if cell&dotBit(dot) != 0 {
			dots = append(dots, dot)
		}
	}
	return dots
}

// CellOf returns the cell with some dots.
func CellOf(dots []int) int {
	cell := 0
	last := 0
	for _, dot := range dots {
		if dot <= last || dot > dotCount {
			return -1
		}
		cell += dotBit(dot)
		last = dot
	}
	return cell
}

// Mirror returns a cell as it is seen from behind.
func Mirror(cell int) int {
	if !isCell(cell) {
		return -1
	}
	// The dots 1 to 3 of the left column are the lower three bits, and the
	// dots 4 to 6 of the right column the upper three.
	left := cell % 8
	right := cell / 8
	return left*8 + right
}

// FormatCells returns the text of cells.
func FormatCells(list []int) string {
	if !ValidCells(list) {
		return ""
	}
	var text []byte
	for i, cell := range list {
		if i > 0 {
			text = append(text, '-')
		}
		text = append(text, cellText(cell)...)
	}
	return string(text)
}

// ParseCells returns the cells of a text.
func ParseCells(s string) ([]int, bool) {
	if s == "" {
		return nil, true
	}
	var list []int
	from := 0
	// Each round begins behind the hyphen that ended the one before it. A text
	// that ends with a hyphen has one more round, with an empty part.
	for from <= len(s) {
		to := indexFrom(s, from, '-')
		cell := cellOfText(s[from:to])
		if cell < 0 || len(list) == MaxCells {
			return nil, false
		}
		list = append(list, cell)
		from = to + 1
	}
	return list, true
}

// isCell reports whether a number is that of a cell.
func isCell(n int) bool {
	return n >= 0 && n < cellCount
}

// dotBit returns the number of the cell with one dot in 1..6 alone.
func dotBit(dot int) int {
	return 1 << uint(dot-1)
}

// cellText returns the text of one cell.
func cellText(cell int) string {
	if cell == 0 {
		return "0"
	}
	var text []byte
	for _, dot := range DotsOf(cell) {
		text = append(text, byte('0'+dot))
	}
	return string(text)
}

// cellOfText returns the cell whose cellText is s, and -1 if there is none.
func cellOfText(s string) int {
	if s == "0" {
		return 0
	}
	if s == "" || len(s) > dotCount {
		return -1
	}
	var dots []int
	for i := 0; i < len(s); i++ {
		dots = append(dots, int(s[i])-'0')
	}
	return CellOf(dots)
}

// indexFrom returns the index of the first character c from an index on, and
// the length of the text if there is none.
func indexFrom(s string, from int, c byte) int {
	at := from
	for at < len(s) && s[at] != c {
		at++
	}
	return at
}
