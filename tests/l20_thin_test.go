package tests

import (
	"fmt"
	"testing"

	"loop.example/braille/impl"
)

// noDistances are numbers that are no distances of dots.
var noDistances = append([]int{0, -1, -2, -24, 25, 26, 48}, far...)

func TestDotsApart(t *testing.T) {
	for _, c := range []struct {
		picture string
		most    int
	}{
		// No two dots, so that they are apart by any distance.
		{".", 24}, {"#", 24}, {"... ...", 24}, {"... .#.", 24},
		{"##", 1}, {"# #", 1}, {"#. .#", 1}, {".# #.", 1}, {"#.#", 2}, {"# . #", 2}, {"#.. ..#", 2}, {"..# #..", 2}, {"#.#..##", 1}, {"#..#..#", 3}, {"#..#.#", 2}, {"..# ... ... #..", 3}, {"#.#.# ..... #.#.#", 2}, {"#....................... .......................#", 23},
	} {
		for distance := 1; distance <= 24; distance++ {
			if got := impl.DotsApart(picture(c.picture), distance); got != (distance <= c.most) {
				t.Errorf("DotsApart(%s, %d) is %t", c.picture, distance, got)
			}
		}
	}
}

func TestTwoDotsApart(t *testing.T) {
	for rows := range 24 {
		for columns := range 24 {
			if rows+columns == 0 {
				continue
			}
			// The second dot is to the right of the first one, or to the left.
			for _, p := range [][][]int{
				pictureOf(rows+1, columns+1, dotPlace{0, 0}, dotPlace{rows, columns}),
				pictureOf(rows+1, columns+1, dotPlace{0, columns}, dotPlace{rows, 0}),
				pictureOf(24, 24, dotPlace{23 - rows, 23 - columns}, dotPlace{23, 23}),
				pictureOf(24, 24, dotPlace{23 - rows, columns}, dotPlace{23, 0}),
			} {
				for distance := 1; distance <= 24; distance++ {
					want := rows >= distance || columns >= distance
					if got := impl.DotsApart(p, distance); got != want {
						t.Errorf("DotsApart(%v, %d) is %t", p, distance, got)
					}
					left := len(dotsOf(impl.Thin(p, distance)))
					if want && left != 2 || !want && left != 1 {
						t.Errorf("Thin(%v, %d) has %d dots", p, distance, left)
					}
				}
				want := 2
				if rows <= 1 && columns <= 1 {
					want = 1
				}
				if got := impl.Regions(p); got != want {
					t.Errorf("Regions(%v) = %d", p, got)
				}
			}
		}
	}
}

func TestDotsApartOfAllKinds(t *testing.T) {
	for _, p := range pictures() {
		most := closest(p)
		for _, distance := range []int{1, 2, 3, 4, 8, 23, 24} {
			if got := impl.DotsApart(p, distance); got != (most >= distance) {
				t.Errorf("DotsApart(%v, %d) is %t", p, distance, got)
			}
		}
	}
	for _, p := range noPictures() {
		for _, distance := range []int{1, 2, 24} {
			if impl.DotsApart(p, distance) {
				t.Errorf("DotsApart(%.300s, %d) is true", fmt.Sprint(p), distance)
			}
		}
	}
}

func TestOtherDistances(t *testing.T) {
	for _, distance := range noDistances {
		for _, p := range append(drawn(), picture("#"), picture("."), picture("#.#"), nil, [][]int{{2}}) {
			if impl.DotsApart(p, distance) {
				t.Errorf("DotsApart(%v, %d) is true", p, distance)
			}
			wantNone(t, fmt.Sprintf("Thin by %d", distance), p, impl.Thin(p, distance))
		}
	}
}

func TestThin(t *testing.T) {
	for _, c := range []struct {
		picture string
		far     int
		thin    string
	}{
		{"#", 1, "#"}, {"#", 24, "#"}, {".", 1, "."}, {"...", 24, "..."}, {"####", 1, "####"}, {"####", 2, "#.#."}, {"####", 3, "#..#"}, {"####", 4, "#..."}, {"# # # #", 2, "# . # ."}, {"# # # #", 3, "# . . #"},
		{"### ###", 2, "#.# ..."}, {"### ###", 3, "#.. ..."}, {"### ### ###", 2, "#.# ... #.#"}, {".##", 2, ".#."}, {".### #...", 2, ".#.# ...."}, {"#. .#", 2, "#. .."}, {".# #.", 2, ".# .."}, {"..# ... #..", 3, "..# ... ..."}, {"...# .... .... #...", 3, "...# .... .... #..."},
		// A dot that became flat is near to no other one.
		{"###..", 2, "#.#.."}, {"##.#.", 3, "#..#."}, {"##.##", 2, "#..#."}, {"##. ..# ...", 2, "#.. ..# ..."}, {"#.#.#.#", 3, "#...#.."}, {"#.#.#.#", 4, "#...#.."}, {"#.#.#.#", 5, "#.....#"},
	} {
		wantLists(t, fmt.Sprintf("Thin(%s, %d)", c.picture, c.far), impl.Thin(picture(c.picture), c.far), picture(c.thin))
	}
}

func TestThinOfAllKinds(t *testing.T) {
	for _, p := range pictures() {
		for _, distance := range []int{1, 2, 3, 4, 7, 24} {
			wantLists(t, fmt.Sprintf("Thin(%v, %d)", p, distance), impl.Thin(p, distance), thinned(p, distance))
		}
	}
	for _, p := range noPictures() {
		for _, distance := range []int{1, 2, 24} {
			wantNone(t, "Thin", p, impl.Thin(p, distance))
		}
	}
}

func TestGrow(t *testing.T) {
	for _, c := range []struct{ picture, large string }{
		{"#", "#"}, {".", "."}, {"#..", "##."}, {"..#", ".##"}, {".#.", "###"}, {"....", "...."}, {"# . .", "# # ."}, {"... .#. ...", "### ### ###"}, {"#.. ... ...", "##. ##. ..."}, {"..# ... ...", ".## .## ..."}, {"... ... #..", "... ##. ##."}, {"... ... ..#", "... .## .##"},
		{".... .... .... ....", ".... .... .... ...."}, {"#... .... .... ...#", "##.. ##.. ..## ..##"}, {"..... ..... ..#.. ..... .....", "..... .###. .###. .###. ....."}, {"#.... ..... .....", "##... ##... ....."},
	} {
		wantLists(t, fmt.Sprintf("Grow(%s)", c.picture), impl.Grow(picture(c.picture)), picture(c.large))
	}
	for _, p := range pictures() {
		wantLists(t, fmt.Sprintf("Grow(%v)", p), impl.Grow(p), grown(p))
	}
	for _, p := range noPictures() {
		wantNone(t, "Grow", p, impl.Grow(p))
	}
}

func TestEachDotGrows(t *testing.T) {
	for _, size := range []dotPlace{{1, 1}, {1, 5}, {5, 1}, {2, 2}, {4, 5}, {24, 24}} {
		for row := range size.row {
			for column := range size.column {
				p := pictureOf(size.row, size.column, dotPlace{row, column})
				want := patterned(size.row, size.column, func(y, x int) bool {
					return y >= row-1 && y <= row+1 && x >= column-1 && x <= column+1
				})
				wantLists(t, fmt.Sprintf("Grow(%v)", p), impl.Grow(p), want)
			}
		}
	}
}

func TestRegions(t *testing.T) {
	for _, c := range []struct {
		picture string
		parts   int
	}{
		{".", 0}, {"#", 1}, {"... ...", 0}, {"##", 1}, {"#.#", 2}, {"#. .#", 1}, {".# #.", 1}, {"# . #", 2}, {"#.. .#. ... #.#", 3}, {"### ###", 1}, {"#.# #.# ###", 1}, {"#.# #.# #.#", 2}, {"### #.# #.#", 1},
		// The end of a row is not beside the beginning of the next one.
		{"..# #..", 2}, {"...# ..## .... #...", 2}, {"#.. ..#", 2},
		// Parts that come together late, and parts in other ones.
		{"#...# #...# .#.#. ..#..", 1}, {"#...# #...# .#.#. .....", 2}, {"#.#.# #.#.# #####", 1}, {"#.#.# #.#.# ##.##", 1}, {"#.#.# #.#.# #...#", 3}, {"##### #...# #.#.# #...# #####", 2}, {"##### #...# ###.# #...# #####", 1}, {".#. #.# .#.", 1}, {".##. #..# #..# .##.", 1}, {"#.#.#.# ....... #.#.#.#", 8},
	} {
		if got := impl.Regions(picture(c.picture)); got != c.parts {
			t.Errorf("Regions(%s) = %d, want %d", c.picture, got, c.parts)
		}
	}
}

func TestRegionsOfAllKinds(t *testing.T) {
	for _, p := range pictures() {
		if got := impl.Regions(p); got != partsFound(p) {
			t.Errorf("Regions(%v) = %d, want %d", p, got, partsFound(p))
		}
	}
	for _, p := range noPictures() {
		if got := impl.Regions(p); got != -1 {
			t.Errorf("Regions(%.300s) = %d", fmt.Sprint(p), got)
		}
	}
}

func TestRegionsOfTheLargestPictures(t *testing.T) {
	for _, c := range []struct {
		name   string
		raised func(y, x int) bool
		parts  int
	}{
		{"all dots", func(y, x int) bool { return true }, 1}, {"each second dot of each second row", func(y, x int) bool { return y%2 == 0 && x%2 == 0 }, 144}, {"each second row", func(y, x int) bool { return y%2 == 1 }, 12}, {"frames", func(y, x int) bool { return min(y, x, 23-y, 23-x)%2 == 0 }, 6}, {"a board", func(y, x int) bool { return (y+x)%2 == 0 }, 1},
		{"a line to and fro", func(y, x int) bool { return y%2 == 0 || x == 23*(y/2%2) }, 1},
	} {
		if got := impl.Regions(patterned(24, 24, c.raised)); got != c.parts {
			t.Errorf("Regions of %s = %d, want %d", c.name, got, c.parts)
		}
	}
}

func TestP135DotsThatAreFarApartAreApartByLessToo(t *testing.T) {
	apart := 0
	for _, p := range smallPictures() {
		if !impl.DotsApart(p, 1) {
			t.Errorf("DotsApart(%v, 1) is false", p)
		}
		for distance := 2; distance <= 24; distance++ {
			if thin := impl.Thin(p, distance); !impl.DotsApart(thin, distance-1) {
				t.Errorf("DotsApart(%v, %d) is false", thin, distance-1)
			}
			if !impl.DotsApart(p, distance) {
				continue
			}
			apart++
			if !impl.DotsApart(p, distance-1) {
				t.Errorf("DotsApart(%v, %d) is false, but true for %d", p, distance-1, distance)
			}
		}
	}
	if apart < 1000 {
		t.Errorf("dots are apart only %d times", apart)
	}
}

func TestP136ThinPicturesHaveDotsApart(t *testing.T) {
	for _, p := range smallPictures() {
		for distance := 1; distance <= 24; distance++ {
			thin := impl.Thin(p, distance)
			if len(thin) != len(p) || len(thin[0]) != len(p[0]) || !impl.DotsApart(thin, distance) || closest(thin) < distance {
				t.Errorf("Thin(%v, %d) = %v", p, distance, thin)
				continue
			}
			for _, d := range dotsOf(thin) {
				if p[d.row][d.column] != 1 {
					t.Errorf("Thin(%v, %d) = %v", p, distance, thin)
				}
			}
			if impl.DotsApart(p, distance) {
				wantLists(t, fmt.Sprintf("Thin(%v, %d)", p, distance), thin, p)
			}
		}
	}
}

func TestP137ThinPicturesHaveRoomForNoOtherDot(t *testing.T) {
	for _, p := range smallPictures() {
		for distance := 1; distance <= 24; distance++ {
			thin := impl.Thin(p, distance)
			left := dotsOf(thin)
			for _, d := range dotsOf(p) {
				if nearest(d, left) >= distance {
					t.Errorf("Thin(%v, %d) = %v, with room for the dot %v", p, distance, thin, d)
				}
			}
		}
	}
}

func TestP138ThinPicturesAreThin(t *testing.T) {
	for _, p := range smallPictures() {
		wantLists(t, fmt.Sprintf("Thin(%v, 1)", p), impl.Thin(p, 1), p)
		for distance := 1; distance <= 24; distance++ {
			thin := impl.Thin(p, distance)
			wantLists(t, fmt.Sprintf("Thin(%v, %d)", thin, distance), impl.Thin(thin, distance), thin)
		}
	}
}

func TestP139DotsApartDoNotHangTogether(t *testing.T) {
	for _, p := range smallPictures() {
		for distance := 2; distance <= 24; distance++ {
			thin := impl.Thin(p, distance)
			if got := impl.Regions(thin); got != len(dotsOf(thin)) {
				t.Errorf("Regions(%v) = %d", thin, got)
			}
		}
	}
}

func TestP140GrowingAddsDots(t *testing.T) {
	for _, p := range pictures() {
		large := impl.Grow(p)
		if len(large) != len(p) || len(large[0]) != len(p[0]) {
			t.Errorf("Grow(%v) = %v", p, large)
			continue
		}
		for _, d := range dotsOf(p) {
			if large[d.row][d.column] != 1 {
				t.Errorf("Grow(%v) = %v", p, large)
			}
		}
		if (len(dotsOf(large)) == 0) != (len(dotsOf(p)) == 0) {
			t.Errorf("Grow(%v) = %v", p, large)
		}
	}
}

func TestP141GrowingJoinsParts(t *testing.T) {
	joined := 0
	for _, p := range pictures() {
		parts, large := impl.Regions(p), impl.Regions(impl.Grow(p))
		if large > parts || (large == 0) != (parts == 0) {
			t.Errorf("Regions(%v) = %d, and %d of Grow", p, parts, large)
		}
		if large < parts {
			joined++
		}
	}
	if joined < 1000 {
		t.Errorf("only %d pictures have parts that are joined", joined)
	}
}

func TestP142PartsHaveDots(t *testing.T) {
	for _, p := range pictures() {
		parts, dots := impl.Regions(p), len(dotsOf(p))
		if parts > dots || (parts == 0) != (dots == 0) {
			t.Errorf("Regions(%v) = %d, with %d dots", p, parts, dots)
		}
		if other := impl.Regions(turned(p)); other != parts {
			t.Errorf("Regions(%v) = %d, and %d with rows and columns exchanged", p, parts, other)
		}
	}
}

func TestP143OneDotChangesFewParts(t *testing.T) {
	seen := [5]int{}
	for _, p := range pictures() {
		parts := impl.Regions(p)
		for i, d := range dotsOf(p) {
			more := impl.Regions(replaced(p, d.row, d.column, 0)) - parts
			if more < -1 || more > 3 {
				t.Errorf("Regions(%v) = %d, and %d more without the dot %v", p, parts, more, d)
				break
			}
			if i == 0 {
				seen[more+1]++
			}
			if i >= 20 {
				break
			}
		}
	}
	// Only two parts can hang together at a dot with none before it.
	if seen[0] < 50 || seen[1] < 50 || seen[2] < 50 || seen[3]+seen[4] > 0 {
		t.Errorf("parts change by -1 to 3 in %v pictures", seen)
	}
	if got := impl.Regions(picture("#.# ... #.#")) - impl.Regions(picture("#.# .#. #.#")); got != 3 {
		t.Errorf("there are %d parts more without the dot in the middle", got)
	}
}

func TestP199ThinPicturesKeepEnoughDots(t *testing.T) {
	for _, p := range append(smallPictures(), block(24, 24, 1), block(23, 24, 1), block(1, 24, 1), block(24, 1, 1)) {
		for distance := 1; distance <= 24; distance++ {
			side := 2*distance - 1
			left := len(dotsOf(impl.Thin(p, distance)))
			if len(dotsOf(p)) > left*side*side {
				t.Errorf("Thin(%v, %d) has only %d dots", p, distance, left)
			}
		}
	}
}

func TestThinPicturesAreNewMemory(t *testing.T) {
	for _, p := range [][][]int{sharedRows(), picture("#"), picture("#.#"), block(24, 24, 1), block(24, 24, 0)} {
		before := fmt.Sprint(p)
		parts := impl.Regions(p)
		impl.DotsApart(p, 2)
		if got := impl.Regions(p); got != parts || fmt.Sprint(p) != before {
			t.Errorf("Regions(%s) = %d at first, and then %d of %v", before, parts, got, p)
		}
		wantNewMemory(t, "Grow", p, func() [][]int { return impl.Grow(p) })
		for distance := 1; distance <= 24; distance++ {
			wantNewMemory(t, "Thin", p, func() [][]int { return impl.Thin(p, distance) })
		}
	}
}
