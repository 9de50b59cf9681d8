package impl

// letterCount is the number of letters.
const letterCount = 26

// decade is the number of letters that have the same dots but for 3 and 6, and
// the number of digits.
const decade = 10

// letterW is the number of the letter w, whose cell is like no other.
const letterW = 22

// marks are the punctuation marks.
const marks = ".,;:!?'-"

// LetterCell returns the cell of a letter.
func LetterCell(n int) int {
	switch {
	case n < 0 || n >= letterCount:
		return -1
	case n < decade:
		return decadeCell(n)
	case n < 2*decade:
		return decadeCell(n-decade) + dotBit(3)
	case n == letterW:
		return dotBit(2) + dotBit(4) + dotBit(5) + dotBit(6)
	case n < letterW:
		return decadeCell(n-2*decade) + dotBit(3) + dotBit(6)
	}
	// The letters behind w take up where the ones before it ended.
	return decadeCell(n-2*decade-1) + dotBit(3) + dotBit(6)
}

// LetterOf returns the letter of a cell.
func LetterOf(cell int) int {
	for n := 0; n < letterCount; n++ {
		if LetterCell(n) == cell {
			return n
		}
	}
	return -1
}

// DigitCell returns the cell of a digit.
func DigitCell(d int) int {
	if d < 0 || d >= decade {
		return -1
	}
	if d == 0 {
		return decadeCell(decade - 1)
	}
	return decadeCell(d - 1)
}

// DigitOf returns the digit of a cell.
func DigitOf(cell int) int {
	for d := 0; d < decade; d++ {
		if DigitCell(d) == cell {
			return d
		}
	}
	return -1
}

// MarkCell returns the cell of a punctuation mark.
func MarkCell(s string) int {
	switch s {
	case ".":
		return dotBit(2) + dotBit(5) + dotBit(6)
	case ",":
		return dotBit(2)
	case ";":
		return dotBit(2) + dotBit(3)
	case ":":
		return dotBit(2) + dotBit(5)
	case "!":
		return dotBit(2) + dotBit(3) + dotBit(5)
	case "?":
		return dotBit(2) + dotBit(3) + dotBit(6)
	case "'":
		return dotBit(3)
	case "-":
		return dotBit(3) + dotBit(6)
	}
	return -1
}

// decadeCell returns the cell of a letter from a to j.
func decadeCell(n int) int {
	switch n {
	case 0:
		return dotBit(1)
	case 1:
		return dotBit(1) + dotBit(2)
	case 2:
		return dotBit(1) + dotBit(4)
	case 3:
		return dotBit(1) + dotBit(4) + dotBit(5)
	case 4:
		return dotBit(1) + dotBit(5)
	case 5:
		return dotBit(1) + dotBit(2) + dotBit(4)
	case 6:
		return dotBit(1) + dotBit(2) + dotBit(4) + dotBit(5)
	case 7:
		return dotBit(1) + dotBit(2) + dotBit(5)
	case 8:
		return dotBit(2) + dotBit(4)
	}
	return dotBit(2) + dotBit(4) + dotBit(5)
}

// markOf returns the punctuation mark whose MarkCell is the cell, and 0 if
// there is none.
func markOf(cell int) byte {
	for i := 0; i < len(marks); i++ {
		if MarkCell(marks[i:i+1]) == cell {
			return marks[i]
		}
	}
	return 0
}
