package tests

import (
	"math"
	"slices"
	"strings"
	"testing"

	"loop.example/g00081/impl"
)

// A row is the test's own picture of a word: a text of 0 and 1, the highest
// bit first. Every answer is held against what is done to such texts.

const spareWord = 0xfeedfacecafebeef

// edgeWidths are those at which words of 64 bits begin, end and are full.
var edgeWidths = []int{1, 2, 3, 4, 5, 7, 8, 31, 32, 33, 62, 63, 64, 65, 66, 67, 68, 126, 127, 128, 129, 130, 191, 192, 193, 1000, 4032, 4033, 4094, 4095, 4096}

// dice is a fixed row of numbers that look as if they were thrown.
type dice struct{ state uint64 }

func (d *dice) below(n int) int {
	d.state = d.state*6364136223846793005 + 1442695040888963407
	return int(d.state >> 33 % uint64(n))
}

func (d *dice) row(width int) string {
	out := make([]byte, width)
	for i := range out {
		out[i] = '0' + byte(d.below(2))
	}
	return string(out)
}

func bitsOfRow(row string) impl.Bits {
	words := make([]uint64, (len(row)+63)/64)
	for i := range len(row) {
		if row[len(row)-1-i] == '1' {
			words[i/64] |= 1 << (i % 64)
		}
	}
	return impl.Bits{Width: int64(len(row)), Words: words}
}

// rowWithSpare has words behind its own that no call may touch.
func rowWithSpare(row string) impl.Bits {
	b := bitsOfRow(row)
	n := len(b.Words)
	b.Words = append(b.Words, spareWord, spareWord, spareWord)[:n]
	return b
}

func spareIsWhole(b impl.Bits) bool {
	for _, word := range b.Words[len(b.Words) : len(b.Words)+3] {
		if word != spareWord {
			return false
		}
	}
	return true
}

func sameBits(a, b impl.Bits) bool {
	return a.Width == b.Width && slices.Equal(a.Words, b.Words)
}

func short(row string) string {
	if len(row) > 140 {
		return row[:140] + ".."
	}
	return row
}

func wantRow(t *testing.T, what string, got impl.Bits, ok bool, want string) {
	t.Helper()
	if !ok || !sameBits(got, bitsOfRow(want)) {
		t.Fatalf("%s: got %v of width %d with words %x, want the row %s", what, ok, got.Width, got.Words, short(want))
	}
}

func wantNoBits(t *testing.T, what string, got impl.Bits, ok bool) {
	t.Helper()
	if ok || got.Width != 0 || len(got.Words) != 0 {
		t.Fatalf("%s: got %v, %v, want nothing and false", what, got, ok)
	}
}

// someRows are rows of a width: all of them where they are few, else those
// with bits at their ends, at the ends of words, everywhere, and thrown ones.
func someRows(width int) []string {
	if width <= 5 {
		return allRows(width)
	}
	zero, one := strings.Repeat("0", width), strings.Repeat("1", width)
	d := dice{state: uint64(width)}
	rows := []string{zero, one, "1" + zero[1:], "0" + one[1:], zero[1:] + "1", one[1:] + "0", strings.Repeat("10", width)[:width], d.row(width), d.row(width), d.row(width)}
	for at := 64; at <= width; at += 64 {
		low := strings.Repeat("1", at)
		rows = append(rows, zero[at:]+low)
		if at > 128 {
			break
		}
	}
	return rows
}

func allRows(width int) []string {
	texts := allTexts("01", width)
	return texts[len(texts)-1<<width:]
}

// allTexts are all of at most so many letters, the shorter ones first.
func allTexts(letters string, most int) []string {
	texts, last := []string{""}, []string{""}
	for range most {
		var longer []string
		for _, text := range last {
			for i := range len(letters) {
				longer = append(longer, text+letters[i:i+1])
			}
		}
		texts, last = append(texts, longer...), longer
	}
	return texts
}

// wrongBits are no right ones: widths, numbers of words and bits above the width.
func wrongBits() []impl.Bits {
	none, one, two := []uint64{}, []uint64{0}, []uint64{0, 0}
	list := []impl.Bits{
		{}, {Width: 0, Words: none}, {Width: 0, Words: one}, {Width: -1}, {Width: -1, Words: one}, {Width: -62}, {Width: -63}, {Width: -64}, {Width: -64, Words: one},
		{Width: math.MinInt64}, {Width: math.MinInt64, Words: one}, {Width: math.MaxInt64}, {Width: math.MaxInt64, Words: one}, {Width: math.MaxInt64 - 62}, {Width: 1 << 32, Words: one},
		{Width: 1}, {Width: 1, Words: two}, {Width: 63}, {Width: 63, Words: two}, {Width: 64}, {Width: 64, Words: two}, {Width: 65}, {Width: 65, Words: one}, {Width: 65, Words: make([]uint64, 3)},
		{Width: 128, Words: one}, {Width: 128, Words: make([]uint64, 3)},
		{Width: 4096, Words: make([]uint64, 63)}, {Width: 4096, Words: make([]uint64, 65)},
		{Width: 4097, Words: make([]uint64, 64)}, {Width: 4097, Words: make([]uint64, 65)}, {Width: 4097, Words: make([]uint64, 66)}, {Width: 4160, Words: make([]uint64, 65)},
		{Width: 4095, Words: append(make([]uint64, 63), 1<<63)},
	}
	for width := range int64(130) {
		if width%64 == 0 {
			continue
		}
		for _, above := range []int64{width % 64, 63} {
			words := make([]uint64, width/64+1)
			words[width/64] = 1 << above
			list = append(list, impl.Bits{Width: width, Words: words})
		}
	}
	return list
}
