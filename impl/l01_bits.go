package impl

import (
	"cmp"
	"math/bits"
	"strings"
)

const (
	MaxWidth = 4096
)

const (
	wordBits  = 64
	hexBits   = 4
	hexDigits = "0123456789abcdef"
)

type Bits struct {
	Width int64
	Words []uint64
}

func BitsOk(b Bits) bool {
	if !widthOk(b.Width) || int64(len(b.Words)) != wordsFor(b.Width) {
		return false
	}
	last := len(b.Words) - 1
	return int64(last*wordBits+bits.Len64(b.Words[last])) <= b.Width
}

func ReadBits(text string) (Bits, bool) {
	per := digitBits(text)
	if per == 0 {
		return Bits{}, false
	}
	body := text[2:]
	count := int64(len(body))
	if count == 0 || count > MaxWidth/per {
		return Bits{}, false
	}
	b := zeroBits(count * per)
	for i := range count {
		value := strings.IndexByte(hexDigits[:1<<per], body[count-1-i])
		if value < 0 {
			return Bits{}, false
		}
		at := i * per
		b.Words[at/wordBits] |= uint64(value) << (at % wordBits)
	}
	return b, true
}

func WriteBits(b Bits) string {
	if !BitsOk(b) {
		return ""
	}
	start, per := "#b", int64(1)
	if b.Width%hexBits == 0 {
		start, per = "#x", hexBits
	}
	var text strings.Builder
	text.WriteString(start)
	for at := b.Width - per; at >= 0; at -= per {
		value := b.Words[at/wordBits] >> (at % wordBits) & (1<<per - 1)
		text.WriteByte(hexDigits[value])
	}
	return text.String()
}

func BitsOf(width int64, n int64) (Bits, bool) {
	if !widthOk(width) || n < 0 || int64(bits.Len64(uint64(n))) > width {
		return Bits{}, false
	}
	b := zeroBits(width)
	b.Words[0] = uint64(n)
	return b, true
}

func PartOf(b Bits, high int64, low int64) (Bits, bool) {
	if !BitsOk(b) || low < 0 || low > high || high >= b.Width {
		return Bits{}, false
	}
	out := zeroBits(high - low + 1)
	first, shift := low/wordBits, low%wordBits
	for i := range int64(len(out.Words)) {
		out.Words[i] = b.Words[first+i] >> shift
		if first+i+1 < int64(len(b.Words)) {
			out.Words[i] |= b.Words[first+i+1] << (wordBits - shift)
		}
	}
	clearAbove(out)
	return out, true
}

func JoinBits(high Bits, low Bits) (Bits, bool) {
	if !BitsOk(high) || !BitsOk(low) || high.Width+low.Width > MaxWidth {
		return Bits{}, false
	}
	out := zeroBits(high.Width + low.Width)
	putBits(out, low, 0)
	putBits(out, high, low.Width)
	return out, true
}

func TurnBits(b Bits, n int64) (Bits, bool) {
	if !BitsOk(b) || n < 0 || n > MaxWidth {
		return Bits{}, false
	}
	n %= b.Width
	if n == 0 {
		return PartOf(b, b.Width-1, 0)
	}
	stay, _ := PartOf(b, b.Width-1-n, 0)
	over, _ := PartOf(b, b.Width-1, b.Width-n)
	return JoinBits(stay, over)
}

func RepeatBits(b Bits, n int64) (Bits, bool) {
	if !BitsOk(b) || n < 1 || n > MaxWidth || b.Width*n > MaxWidth {
		return Bits{}, false
	}
	out := zeroBits(b.Width * n)
	for i := range n {
		putBits(out, b, i*b.Width)
	}
	return out, true
}

func WidenBits(b Bits, n int64, sign bool) (Bits, bool) {
	if !BitsOk(b) || n < 0 || n > MaxWidth || b.Width+n > MaxWidth {
		return Bits{}, false
	}
	out := zeroBits(b.Width + n)
	putBits(out, b, 0)
	if sign && n > 0 && topBit(b) == 1 {
		putBits(out, onesOf(n), b.Width)
	}
	return out, true
}

func CompareBits(a Bits, b Bits) int64 {
	if !BitsOk(a) || !BitsOk(b) || a.Width != b.Width {
		return -2
	}
	for i := len(a.Words) - 1; i >= 0; i-- {
		if order := cmp.Compare(a.Words[i], b.Words[i]); order != 0 {
			return int64(order)
		}
	}
	return 0
}

func NextBits(b Bits) (Bits, bool) {
	if !BitsOk(b) || CountOnes(b) == b.Width {
		return Bits{}, false
	}
	out := zeroBits(b.Width)
	carry := uint64(1)
	for i := range len(b.Words) {
		out.Words[i], carry = bits.Add64(b.Words[i], 0, carry)
	}
	return out, true
}

func CountOnes(b Bits) int64 {
	if !BitsOk(b) {
		return -1
	}
	count := 0
	for _, word := range b.Words {
		count += bits.OnesCount64(word)
	}
	return int64(count)
}

func widthOk(width int64) bool { return width >= 1 && width <= MaxWidth }

func wordsFor(width int64) int64 { return (width + wordBits - 1) / wordBits }

func zeroBits(width int64) Bits {
	return Bits{Width: width, Words: make([]uint64, wordsFor(width))}
}

func onesOf(width int64) Bits {
	b := zeroBits(width)
	for i := range b.Words {
		b.Words[i] = ^uint64(0)
	}
	clearAbove(b)
	return b
}

// digitBits is 0 of a text that begins as no Bits does.
func digitBits(text string) int64 {
	switch {
	case strings.HasPrefix(text, "#b"):
		return 1
	case strings.HasPrefix(text, "#x"):
		return hexBits
	}
	return 0
}

func topBit(b Bits) uint64 { return bitAt(b, b.Width-1) }

func bitAt(b Bits, at int64) uint64 { return b.Words[at/wordBits] >> (at % wordBits) & 1 }

// setBit writes into b, so it is for rows that the program has just made.
func setBit(b Bits, at int64) { b.Words[at/wordBits] |= 1 << (at % wordBits) }

// clearAbove writes into b, so it is for rows that the program has just made.
func clearAbove(b Bits) {
	last := len(b.Words) - 1
	b.Words[last] &= ^uint64(0) >> (int64(len(b.Words))*wordBits - b.Width)
}

// putBits writes into a row that is wide enough and still 0 where b comes to stand.
func putBits(into Bits, b Bits, place int64) {
	first, shift := place/wordBits, place%wordBits
	for i, word := range b.Words {
		at := first + int64(i)
		into.Words[at] |= word << shift
		// There may be no next word, but then nothing is left for it either.
		if rest := word >> (wordBits - shift); rest != 0 {
			into.Words[at+1] |= rest
		}
	}
}
