package tests

import (
	"fmt"
	"math"
	"math/big"
	"slices"
	"strings"
	"testing"

	"loop.example/g00081/impl"
)

// Promise 1: words come back from their texts; parts that are joined again
// are the word; turned as often as it is wide a word is what it was; of two
// words of a width one order is told, in which each next one stands behind.

func TestBitsOk(t *testing.T) {
	for width := 1; width <= 130; width++ {
		for _, row := range someRows(width) {
			if !impl.BitsOk(bitsOfRow(row)) {
				t.Fatalf("row %s is right", row)
			}
		}
	}
	for _, width := range edgeWidths {
		for _, row := range someRows(width) {
			if !impl.BitsOk(rowWithSpare(row)) {
				t.Fatalf("row %s of width %d is right", short(row), width)
			}
		}
	}
	for _, b := range wrongBits() {
		if impl.BitsOk(b) {
			t.Fatalf("width %d with words %x is not right", b.Width, b.Words)
		}
	}
}

func textOfRow(row string) string {
	if len(row)%4 != 0 {
		return "#b" + row
	}
	text := "#x"
	for at := 0; at < len(row); at += 4 {
		text += string("0123456789abcdef"[strings.Index("0000 0001 0010 0011 0100 0101 0110 0111 1000 1001 1010 1011 1100 1101 1110 1111", row[at:at+4])/5])
	}
	return text
}

func TestWordsComeBackFromTheirTexts(t *testing.T) {
	for _, width := range edgeWidths {
		for _, row := range someRows(width) {
			b := bitsOfRow(row)
			text := impl.WriteBits(b)
			if text != textOfRow(row) {
				t.Fatalf("written %s, want %s", short(text), short(textOfRow(row)))
			}
			back, ok := impl.ReadBits(text)
			wantRow(t, "read what was written", back, ok, row)
			plain, ok := impl.ReadBits("#b" + row)
			wantRow(t, "read the bits", plain, ok, row)
		}
	}
}

func TestWriteBitsOfWrongOnes(t *testing.T) {
	for _, b := range wrongBits() {
		if text := impl.WriteBits(b); text != "" {
			t.Fatalf("width %d with words %x is written %q", b.Width, b.Words, text)
		}
	}
}

func TestReadBitsPlain(t *testing.T) {
	for _, c := range []struct{ text, row string }{
		{"#b0", "0"}, {"#b1", "1"}, {"#b00", "00"}, {"#b0001", "0001"}, {"#b1011", "1011"}, {"#b10110", "10110"},
		{"#x0", "0000"}, {"#xf", "1111"}, {"#x0f", "00001111"}, {"#x1a", "00011010"}, {"#x00", "00000000"}, {"#xb1", "10110001"},
		{"#x0123456789abcdef", "0000000100100011010001010110011110001001101010111100110111101111"},
		{"#xfedcba98765432100", "11111110110111001011101010011000011101100101010000110010000100000000"},
	} {
		b, ok := impl.ReadBits(c.text)
		wantRow(t, c.text, b, ok, c.row)
	}
}

// rowOfText tells what a text is by the words of the document alone.
func rowOfText(text string) (string, bool) {
	if len(text) < 3 || text[0] != '#' || text[1] != 'b' && text[1] != 'x' {
		return "", false
	}
	row := ""
	for i := 2; i < len(text); i++ {
		value := strings.IndexByte("0123456789abcdef", text[i])
		switch {
		case value < 0, text[1] == 'b' && value > 1:
			return "", false
		case text[1] == 'b':
			row += fmt.Sprintf("%b", value)
		default:
			row += fmt.Sprintf("%04b", value)
		}
	}
	return row, true
}

func TestReadBitsOfAllShortTexts(t *testing.T) {
	for _, text := range allTexts("#bx012afgBXF- ", 4) {
		checkReadBits(t, text)
	}
}

func TestReadBitsOfEveryByte(t *testing.T) {
	for c := range 256 {
		s := string([]byte{byte(c)})
		for _, text := range []string{s, "#" + s, s + "b1", "#" + s + "1", "#b" + s, "#x" + s, "#b1" + s, "#x1" + s, "#b" + s + "1", "#x" + s + "1", "#b1" + s + "1", "#x1" + s + "1"} {
			checkReadBits(t, text)
		}
	}
}

func checkReadBits(t *testing.T, text string) {
	t.Helper()
	b, ok := impl.ReadBits(text)
	row, right := rowOfText(text)
	if right {
		wantRow(t, text, b, ok, row)
	} else {
		wantNoBits(t, text, b, ok)
	}
}

func TestReadBitsAtItsLimit(t *testing.T) {
	for _, c := range []struct {
		start string
		count int
		right bool
	}{{"#b", 4095, true}, {"#b", 4096, true}, {"#b", 4097, false}, {"#b", 8192, false}, {"#x", 1023, true}, {"#x", 1024, true}, {"#x", 1025, false}, {"#x", 4096, false}, {"#b", 1 << 20, false}, {"#x", 1 << 20, false}} {
		for _, digit := range []string{"0", "1"} {
			b, ok := impl.ReadBits(c.start + strings.Repeat(digit, c.count))
			what := fmt.Sprint(c.start, " and ", c.count, " of ", digit)
			if !c.right {
				wantNoBits(t, what, b, ok)
			} else if c.start == "#b" {
				wantRow(t, what, b, ok, strings.Repeat(digit, c.count))
			} else {
				wantRow(t, what, b, ok, strings.Repeat("000"+digit, c.count))
			}
		}
	}
	wrong, ok := impl.ReadBits("#b" + strings.Repeat("1", 4095) + "2")
	wantNoBits(t, "a wrong digit at the very end", wrong, ok)
}

func TestBitsOf(t *testing.T) {
	numbers := []int64{0, 1, 2, 3, 4, 5, 7, 8, 255, 256, 1<<31 - 1, 1 << 31, 1 << 32, 1<<62 - 1, 1 << 62, 1<<62 + 1, math.MaxInt64 - 1, math.MaxInt64}
	widths := []int64{1, 2, 3, 4, 8, 31, 32, 33, 61, 62, 63, 64, 65, 128, 4095, 4096}
	for _, width := range widths {
		for _, n := range numbers {
			b, ok := impl.BitsOf(width, n)
			what := fmt.Sprint("width ", width, " number ", n)
			if width < 63 && n >= int64(1)<<width {
				wantNoBits(t, what, b, ok)
				continue
			}
			digits := fmt.Sprintf("%b", n)
			row := strings.Repeat("0", max(0, int(width)-len(digits))) + digits
			wantRow(t, what, b, ok, row[len(row)-int(width):])
		}
		for _, n := range []int64{-1, -2, math.MinInt64, math.MinInt64 + 1} {
			b, ok := impl.BitsOf(width, n)
			wantNoBits(t, fmt.Sprint("number ", n), b, ok)
		}
	}
	for _, width := range []int64{0, -1, -64, 4097, 4160, math.MinInt64, math.MaxInt64, math.MaxInt64 - 62} {
		for _, n := range []int64{0, 1, -1, math.MaxInt64, math.MinInt64} {
			b, ok := impl.BitsOf(width, n)
			wantNoBits(t, fmt.Sprint("width ", width), b, ok)
		}
	}
}

func TestPartOfEveryPart(t *testing.T) {
	for _, width := range []int{1, 2, 3, 4, 5, 63, 64, 65, 129} {
		for _, row := range someRows(width) {
			b := bitsOfRow(row)
			for low := range width {
				for high := low; high < width; high++ {
					part, ok := impl.PartOf(b, int64(high), int64(low))
					wantRow(t, fmt.Sprint("bits ", low, " .. ", high, " of ", row), part, ok, row[width-1-high:width-low])
				}
			}
		}
	}
}

func TestPartOfWideOnes(t *testing.T) {
	places := []int{0, 1, 62, 63, 64, 65, 127, 128, 2047, 2048, 4031, 4032, 4033, 4094, 4095}
	for _, row := range someRows(4096) {
		b := bitsOfRow(row)
		for _, low := range places {
			for _, high := range places {
				part, ok := impl.PartOf(b, int64(high), int64(low))
				if low > high {
					wantNoBits(t, "low above high", part, ok)
				} else {
					wantRow(t, fmt.Sprint("bits ", low, " .. ", high), part, ok, row[4095-high:4096-low])
				}
			}
		}
	}
}

func TestPartOfWrongPlaces(t *testing.T) {
	for _, width := range []int{1, 3, 63, 64, 65, 4096} {
		b := bitsOfRow(strings.Repeat("1", width))
		w := int64(width)
		places := []int64{math.MinInt64, math.MinInt64 + 1, -65, -64, -1, 0, w - 1, w, w + 1, w + 63, w + 64, 1 << 32, math.MaxInt64 - 1, math.MaxInt64}
		for _, high := range places {
			for _, low := range places {
				part, ok := impl.PartOf(b, high, low)
				if 0 <= low && low <= high && high < w {
					wantRow(t, "a part", part, ok, strings.Repeat("1", int(high-low+1)))
				} else {
					wantNoBits(t, fmt.Sprint("bits ", low, " .. ", high, " of width ", w), part, ok)
				}
			}
		}
	}
}

func TestJoinBits(t *testing.T) {
	widths := []int{1, 2, 5, 31, 63, 64, 65, 127, 128, 129}
	for _, a := range widths {
		for _, b := range widths {
			for i, high := range someRows(a) {
				lows := someRows(b)
				low := lows[i%len(lows)]
				got, ok := impl.JoinBits(bitsOfRow(high), bitsOfRow(low))
				wantRow(t, fmt.Sprint(high, " and ", low), got, ok, high+low)
			}
		}
	}
	for _, a := range []int{1, 63, 64, 65, 2047, 2048, 2049, 4031, 4032, 4033, 4095, 4096} {
		for _, b := range []int{4096 - a, 4097 - a, 4096} {
			if b < 1 {
				continue
			}
			high, low := someRows(a)[1], someRows(b)[1]
			got, ok := impl.JoinBits(bitsOfRow(high), bitsOfRow(low))
			if a+b <= 4096 {
				wantRow(t, "just as wide as can be", got, ok, high+low)
			} else {
				wantNoBits(t, fmt.Sprint("widths ", a, " and ", b), got, ok)
			}
		}
	}
}

func TestPartsJoinedAgainAreTheWord(t *testing.T) {
	for _, width := range edgeWidths {
		for _, row := range someRows(width) {
			b := bitsOfRow(row)
			for cut := 1; cut < width; cut += 1 + width/70 {
				high, ok1 := impl.PartOf(b, b.Width-1, int64(cut))
				low, ok2 := impl.PartOf(b, int64(cut)-1, 0)
				joined, ok := impl.JoinBits(high, low)
				wantRow(t, fmt.Sprint("cut at ", cut), joined, ok && ok1 && ok2, row)
			}
		}
	}
}

func TestTurnBits(t *testing.T) {
	for _, width := range edgeWidths {
		w := int64(width)
		for _, row := range someRows(width) {
			b := bitsOfRow(row)
			for _, n := range []int64{0, 1, 2, 31, 63, 64, 65, w / 2, w - 1, w, w + 1, 2*w - 1, 2 * w, 2*w + 1, 3*w + 2, 4095, 4096} {
				if n > 4096 {
					continue
				}
				got, ok := impl.TurnBits(b, n)
				by := n % w
				wantRow(t, fmt.Sprint("turned by ", n), got, ok, row[by:]+row[:by])
			}
			for _, n := range []int64{-1, -w, -64, 4097, 8192, 1 << 32, math.MinInt64, math.MaxInt64} {
				got, ok := impl.TurnBits(b, n)
				wantNoBits(t, fmt.Sprint("turned by ", n), got, ok)
			}
		}
	}
}

func TestTurnedAsOftenAsItIsWide(t *testing.T) {
	for _, width := range []int{1, 2, 3, 5, 63, 64, 65, 130} {
		for _, row := range someRows(width) {
			b, ok := bitsOfRow(row), true
			for range width {
				if b, ok = impl.TurnBits(b, 1); !ok {
					t.Fatal("a right word is not turned")
				}
			}
			wantRow(t, "turned all around", b, ok, row)
		}
	}
}

func TestRepeatBits(t *testing.T) {
	for _, width := range edgeWidths {
		w := int64(width)
		for _, row := range someRows(width) {
			b := bitsOfRow(row)
			for _, n := range []int64{1, 2, 3, 64, 4096 / w} {
				got, ok := impl.RepeatBits(b, n)
				if n*w <= 4096 {
					wantRow(t, fmt.Sprint(n, " times"), got, ok, strings.Repeat(row, int(n)))
				} else {
					wantNoBits(t, fmt.Sprint(n, " times"), got, ok)
				}
			}
			for _, n := range []int64{0, -1, 4096/w + 1, 4097, 1 << 32, 1<<58 + 1, 1 << 60, 1 << 61, 1 << 62, 1<<62 + 1, math.MinInt64, math.MinInt64 + 1, math.MaxInt64} {
				got, ok := impl.RepeatBits(b, n)
				wantNoBits(t, fmt.Sprint(n, " times of width ", w), got, ok)
			}
		}
	}
}

func TestWidenBits(t *testing.T) {
	for _, width := range edgeWidths {
		w := int64(width)
		for _, row := range someRows(width) {
			b := bitsOfRow(row)
			for _, sign := range []bool{false, true} {
				for _, n := range []int64{0, 1, 2, 63, 64, 65, 128, 4095 - w, 4096 - w} {
					if n < 0 || w+n > 4096 {
						continue
					}
					above := "0"
					if sign {
						above = row[:1]
					}
					got, ok := impl.WidenBits(b, n, sign)
					wantRow(t, fmt.Sprint(n, " more, ", sign), got, ok, strings.Repeat(above, int(n))+row)
				}
				for _, n := range []int64{-1, -w, 4097 - w, 4096, 4097, math.MinInt64, math.MaxInt64, math.MaxInt64 - w + 1} {
					got, ok := impl.WidenBits(b, n, sign)
					wantNoBits(t, fmt.Sprint(n, " more of width ", w), got, ok)
				}
			}
		}
	}
}

func TestCompareBits(t *testing.T) {
	for _, width := range edgeWidths {
		rows := someRows(width)
		for _, a := range rows {
			for _, b := range rows {
				got := impl.CompareBits(bitsOfRow(a), bitsOfRow(b))
				if want := int64(strings.Compare(a, b)); got != want {
					t.Fatalf("%s against %s: %d, want %d", short(a), short(b), got, want)
				}
			}
		}
	}
	for _, a := range edgeWidths {
		for _, b := range edgeWidths {
			got := impl.CompareBits(bitsOfRow(strings.Repeat("0", a)), bitsOfRow(strings.Repeat("0", b)))
			if a != b && got != -2 {
				t.Fatalf("widths %d and %d: %d", a, b, got)
			}
		}
	}
}

func TestCompareBitsAtEachBit(t *testing.T) {
	for _, width := range []int{1, 63, 64, 65, 200, 4096} {
		zero := strings.Repeat("0", width)
		for at := 0; at < width; at += 1 + width/150 {
			more := zero[:at] + "1" + zero[at+1:]
			less := zero[:at] + "0" + strings.Repeat("1", width-at-1)
			a, b := bitsOfRow(more), bitsOfRow(less)
			if impl.CompareBits(a, b) != 1 || impl.CompareBits(b, a) != -1 || impl.CompareBits(a, a) != 0 {
				t.Fatalf("width %d at %d", width, at)
			}
		}
	}
}

func TestNextBits(t *testing.T) {
	for _, width := range edgeWidths {
		for _, row := range someRows(width) {
			b := bitsOfRow(row)
			next, ok := impl.NextBits(b)
			if !strings.Contains(row, "0") {
				wantNoBits(t, "behind all ones", next, ok)
				continue
			}
			n, _ := new(big.Int).SetString(row, 2)
			digits := n.Add(n, big.NewInt(1)).Text(2)
			wantRow(t, "one greater", next, ok, strings.Repeat("0", width-len(digits))+digits)
			if impl.CompareBits(b, next) != -1 || impl.CompareBits(next, b) != 1 {
				t.Fatalf("the next one of %s does not stand behind it", short(row))
			}
		}
	}
}

func TestNextBitsGoesThroughAllWords(t *testing.T) {
	for width := int64(1); width <= 9; width++ {
		b, ok := impl.BitsOf(width, 0)
		rows := allRows(int(width))
		for i, row := range rows {
			wantRow(t, "in order", b, ok, row)
			if next, more := impl.NextBits(b); more != (i < len(rows)-1) {
				t.Fatalf("width %d: %v behind %s", width, more, row)
			} else {
				b = next
			}
		}
	}
}

func TestCountOnes(t *testing.T) {
	for _, width := range edgeWidths {
		for _, row := range someRows(width) {
			if got := impl.CountOnes(bitsOfRow(row)); got != int64(strings.Count(row, "1")) {
				t.Fatalf("%s: %d", short(row), got)
			}
		}
	}
}

func TestWrongWordsAreRefused(t *testing.T) {
	fine := bitsOfRow("1")
	for _, b := range wrongBits() {
		for name, call := range map[string]func() (impl.Bits, bool){
			"PartOf":        func() (impl.Bits, bool) { return impl.PartOf(b, 0, 0) },
			"PartOf whole":  func() (impl.Bits, bool) { return impl.PartOf(b, b.Width-1, 0) },
			"JoinBits high": func() (impl.Bits, bool) { return impl.JoinBits(b, fine) },
			"JoinBits low":  func() (impl.Bits, bool) { return impl.JoinBits(fine, b) },
			"JoinBits both": func() (impl.Bits, bool) { return impl.JoinBits(b, b) },
			"TurnBits 0":    func() (impl.Bits, bool) { return impl.TurnBits(b, 0) },
			"TurnBits 1":    func() (impl.Bits, bool) { return impl.TurnBits(b, 1) },
			"RepeatBits":    func() (impl.Bits, bool) { return impl.RepeatBits(b, 1) },
			"RepeatBits 2":  func() (impl.Bits, bool) { return impl.RepeatBits(b, 2) },
			"WidenBits":     func() (impl.Bits, bool) { return impl.WidenBits(b, 0, false) },
			"WidenBits 1":   func() (impl.Bits, bool) { return impl.WidenBits(b, 1, true) },
			"NextBits":      func() (impl.Bits, bool) { return impl.NextBits(b) },
		} {
			got, ok := call()
			wantNoBits(t, name, got, ok)
		}
		alike := impl.Bits{Width: b.Width, Words: slices.Clone(b.Words)}
		for _, got := range []int64{impl.CompareBits(b, fine), impl.CompareBits(fine, b), impl.CompareBits(b, alike), impl.CompareBits(b, b)} {
			if got != -2 {
				t.Fatalf("width %d with words %x is compared: %d", b.Width, b.Words, got)
			}
		}
		if got := impl.CountOnes(b); got != -1 {
			t.Fatalf("width %d with words %x has %d ones", b.Width, b.Words, got)
		}
	}
}

// wordCalls answer with words made of a and b, in all the ways there are.
func wordCalls(a, b impl.Bits) []func() (impl.Bits, bool) {
	return []func() (impl.Bits, bool){
		func() (impl.Bits, bool) { return impl.PartOf(a, a.Width-1, 0) },
		func() (impl.Bits, bool) { return impl.PartOf(a, a.Width/2, 0) },
		func() (impl.Bits, bool) { return impl.PartOf(a, a.Width-1, a.Width/2) },
		func() (impl.Bits, bool) { return impl.JoinBits(a, b) },
		func() (impl.Bits, bool) { return impl.JoinBits(b, a) },
		func() (impl.Bits, bool) { return impl.JoinBits(a, a) },
		func() (impl.Bits, bool) { return impl.TurnBits(a, 0) },
		func() (impl.Bits, bool) { return impl.TurnBits(a, 1) },
		func() (impl.Bits, bool) { return impl.TurnBits(a, a.Width) },
		func() (impl.Bits, bool) { return impl.RepeatBits(a, 1) },
		func() (impl.Bits, bool) { return impl.RepeatBits(a, 3) },
		func() (impl.Bits, bool) { return impl.WidenBits(a, 0, false) },
		func() (impl.Bits, bool) { return impl.WidenBits(a, 0, true) },
		func() (impl.Bits, bool) { return impl.WidenBits(a, 7, true) },
		func() (impl.Bits, bool) { return impl.WidenBits(a, 70, false) },
		func() (impl.Bits, bool) { return impl.NextBits(a) },
	}
}

func TestWordsAreNewMemory(t *testing.T) {
	for _, width := range []int{1, 5, 63, 64, 65, 128, 130} {
		for _, row := range someRows(width) {
			a, b := rowWithSpare(row), rowWithSpare("1"+row)
			for i, call := range wordCalls(a, b) {
				first, ok := call()
				second, again := call()
				if ok != again || !sameBits(first, second) {
					t.Fatalf("call %d of %s answers %v and then %v", i, row, first, second)
				}
				kept := bitsCopy(second)
				spoil := first.Words[:cap(first.Words)]
				for j := range spoil {
					spoil[j] = ^spoil[j]
				}
				if !sameBits(a, bitsOfRow(row)) || !sameBits(b, bitsOfRow("1"+row)) || !spareIsWhole(a) || !spareIsWhole(b) {
					t.Fatalf("call %d shares memory with its argument, or writes into it", i)
				}
				if !sameBits(second, kept) {
					t.Fatalf("call %d shares memory with another answer", i)
				}
			}
			impl.BitsOk(a)
			impl.WriteBits(a)
			impl.CompareBits(a, b)
			impl.CountOnes(a)
			if !sameBits(a, bitsOfRow(row)) || !spareIsWhole(a) || !spareIsWhole(b) {
				t.Fatal("a call that only asks has written")
			}
		}
	}
}

func bitsCopy(b impl.Bits) impl.Bits {
	return impl.Bits{Width: b.Width, Words: slices.Clone(b.Words)}
}

func TestReadWordsAreNewMemory(t *testing.T) {
	one, _ := impl.ReadBits("#xffffffffffffffffff")
	other, _ := impl.ReadBits("#xffffffffffffffffff")
	zero, _ := impl.BitsOf(200, 0)
	nought, _ := impl.BitsOf(200, 0)
	one.Words[0], zero.Words[1] = 0, 5
	wantRow(t, "another answer", other, true, strings.Repeat("1", 72))
	wantRow(t, "another answer", nought, true, strings.Repeat("0", 200))
}
