package tests

import (
	"bytes"
	"fmt"
	"math"
	"slices"
	"strings"
	"testing"

	"loop.example/g00081/impl"
)

// checkLoad holds what is read of any bytes against the picture.
func checkLoad(t *testing.T, data []byte) (impl.Session, int64) {
	t.Helper()
	got, code := impl.LoadSession(data)
	want, wantCode := loadedByPicture(data)
	if code != wantCode || !sameSession(got, want) {
		t.Fatalf("%s: %s, %d, want %s, %d", short(fmt.Sprint(data)), short(fmt.Sprint(got)), code, short(fmt.Sprint(want)), wantCode)
	}
	if code != 0 && !isZero(got) {
		t.Fatalf("%s: %v with the code %d", short(fmt.Sprint(data)), got, code)
	}
	if code == 0 && !bytes.Equal(impl.SaveSession(got), data) {
		t.Fatalf("%s is read, but not written", short(fmt.Sprint(data)))
	}
	return got, code
}

// checkSaved holds the bytes of a right session against the picture, and reads them.
func checkSaved(t *testing.T, s impl.Session) []byte {
	t.Helper()
	want := tapeOf(s)
	got := impl.SaveSession(s)
	if len(want) > 60000 {
		if len(got) != 0 {
			t.Fatalf("%d bytes are told, want nothing", len(got))
		}
		wantLoadCode(t, want, impl.CdLong)
		return nil
	}
	if !bytes.Equal(got, want) {
		t.Fatalf("%s: %s, want %s", short(sessionText(s)), short(fmt.Sprint(got)), short(fmt.Sprint(want)))
	}
	if back, code := checkLoad(t, got); code != 0 || !sameSession(back, s) {
		t.Fatalf("%s came back as %s, %d", short(sessionText(s)), short(fmt.Sprint(back)), code)
	}
	return got
}

func wantLoadCode(t *testing.T, data []byte, want int64) {
	t.Helper()
	if _, code := checkLoad(t, data); code != want {
		t.Errorf("%s: the code %d, want %d", short(fmt.Sprint(data)), code, want)
	}
}

// tapeBy puts numbers, texts and bytes behind 83, 1.
func tapeBy(words ...any) []byte {
	out := []byte{83, 1}
	for _, word := range words {
		switch word := word.(type) {
		case int:
			out = numberOnTape(out, int64(word))
		case string:
			out = append(out, word...)
		case []byte:
			out = append(out, word...)
		}
	}
	return out
}

func TestCodecConstants(t *testing.T) {
	got := []int64{impl.CdLong, impl.CdStart, impl.CdShort, impl.CdNumber, impl.CdFlag, impl.CdCount, impl.CdMore, impl.CdSession, impl.MaxSaved}
	if !slices.Equal(got, []int64{1, 2, 3, 4, 5, 6, 7, 8, 60000}) {
		t.Error(got)
	}
}

func TestSavedByHand(t *testing.T) {
	for _, c := range []struct {
		moves []string
		want  []byte
	}{
		{nil, []byte{83, 1, 1, 0, 1, 0, 0}},
		{texts("push"), []byte{83, 1, 1, 0, 2, 0, 0, 0, 0}},
		{texts("declare a 127"), []byte{83, 1, 1, 1, 1, 'a', 127, 1, 0, 0}},
		{texts("declare a 128"), []byte{83, 1, 1, 1, 1, 'a', 128, 1, 1, 0, 0}},
		{texts("declare a 4096"), []byte{83, 1, 1, 1, 1, 'a', 128, 32, 1, 0, 0}},
		{texts("declare abcdefghijkl 1", "push", "declare z9 300"), []byte{83, 1, 1, 2, 12, 'a', 'b', 'c', 'd', 'e', 'f', 'g', 'h', 'i', 'j', 'k', 'l', 1, 2, 'z', '9', 172, 2, 2, 0, 0, 1, 0}},
		{texts("unlike #b1 ! #b0"), []byte{83, 1, 2, 0, 1, 0, 1, 1, 0, 1, 2, 0, 0, 0, 1, 1, 0, 1, 2, 0, 0, 0, 1, 0, 0}},
		// a Value: the lowest bits first
		{texts("equal #xabcd = #b1100000010000001"), []byte{83, 1, 2, 0, 1, 0, 1, 1, 1, 1, 2, 0, 0, 0, 16, 0xcd, 0xab, 0, 1, 2, 0, 0, 0, 16, 0x81, 0xc0, 0}},
		{texts("equal #b110000001 = #b000000010"), []byte{83, 1, 2, 0, 1, 0, 1, 1, 1, 1, 2, 0, 0, 0, 9, 0x81, 1, 0, 1, 2, 0, 0, 0, 9, 2, 0, 0}},
		{texts("declare a 2", "push", "equal (cat a (part 1 0 a)) = (zero 3 #b1)"), []byte{83, 1, 2, 1, 1, 'a', 2, 2, 0, 0, 1, 1, 1, 1, 4, 1, 0, 0, 0, 0, 0, 1, 0, 0, 0, 0, 0, 4, 0, 1, 0, 0, 1, 1, 3, 0, 0, 0, 0, 2, 0, 2, 2, 2, 0, 0, 0, 1, 1, 0, 5, 0, 3, 0, 0, 1, 0}},
		// Next behind a pop
		{texts("push", "equal #b1 = #b1", "equal #b1 = #b1", "pop"), []byte{83, 1, 3, 0, 1, 0, 0}},
	} {
		s := sessionBy(t, c.moves...)
		if got := checkSaved(t, s); !bytes.Equal(got, c.want) {
			t.Errorf("%q: %v, want %v", c.moves, got, c.want)
		}
	}
	last := impl.Begin()
	last.Next = 1000000
	if got := checkSaved(t, last); !bytes.Equal(got, []byte{83, 1, 192, 132, 61, 0, 1, 0, 0}) {
		t.Error(got)
	}
}

// The promise: a session comes back from its bytes.
func TestThrownSessionsComeBack(t *testing.T) {
	d := dice{state: 311}
	lengths := 0
	for range 300 {
		lengths = max(lengths, len(checkSaved(t, thrownSession(&d, d.below(80)))))
	}
	if lengths < 500 {
		t.Error("all are short:", lengths)
	}
	for _, s := range []impl.Session{filledSession(60, 20, 1000000), filledSession(0, 20, 7), filledSession(60, 1, 61)} {
		checkSaved(t, s)
	}
	full := impl.Begin()
	full.Decls = append(manyDecls(4, 4096), impl.Decl{Name: "z", Width: 3616})
	checkSaved(t, full)
	full.Decls = manyDecls(60, 333)
	checkSaved(t, full)
	// words of all widths, and terms of 400 nodes
	for _, width := range edgeWidths {
		s := impl.Begin()
		row := d.row(width)
		s.Scopes[0].Literals, s.Next = []impl.Literal{literal(1, true, term(constant(row)), term(constant(strings.Repeat("1", width))))}, 2
		checkSaved(t, s)
	}
	deep := sessionBy(t, "declare a 3")
	deep.Scopes[0].Literals, deep.Next = []impl.Literal{literal(999, false, chain(variable(0), 399), chain(constant("010"), 399))}, 1000
	checkSaved(t, deep)
}

// sessionOfLength is right, and has just so many bytes: at least 1000, at most 61000.
func sessionOfLength(t *testing.T, length int) impl.Session {
	t.Helper()
	s := impl.Session{Decls: []impl.Decl{{Name: "a", Width: 1}}, Scopes: make([]impl.Scope, 1), Next: 100}
	left := func() int { return length - len(tapeOf(s)) }
	fill := func(width int) {
		x, list := term(constant(strings.Repeat("10", width/2))), s.Scopes[0].Literals
		s.Scopes[0].Literals = append(list, literal(int64(len(list)+1), true, x, x))
	}
	for left() > 2000 {
		fill(4096)
	}
	for left() > 1000 {
		fill(2048)
	}
	// a literal has 18 bytes beside those of its two words; what lacks then is a longer name
	fill(8 * ((left() - 20) / 2))
	s.Decls[0].Name += strings.Repeat("x", left())
	if len(tapeOf(s)) != length || !rightSession(s) {
		t.Fatalf("%d bytes, want %d of a right session", len(tapeOf(s)), length)
	}
	return s
}

func TestSavedAtItsEnd(t *testing.T) {
	for _, length := range []int{59999, 60000} {
		if got := checkSaved(t, sessionOfLength(t, length)); len(got) != length {
			t.Errorf("%d bytes, want %d", len(got), length)
		}
	}
	for _, length := range []int{60001, 60002, 61000} {
		s := sessionOfLength(t, length)
		if !impl.SessionOk(s) {
			t.Errorf("a session of %d bytes is not right", length)
		}
		checkSaved(t, s)
	}
	big := impl.Begin()
	for i := range int64(60) {
		x := term(constant("1"))
		for len(x.Nodes) < 400 {
			last := int64(len(x.Nodes) - 1)
			x.Nodes = append(x.Nodes, cat(slices.Repeat([]int64{last}, 400)...), part(0, 0, last+1))
		}
		x.Nodes = x.Nodes[:399]
		big.Scopes[0].Literals, big.Next = append(big.Scopes[0].Literals, literal(i+1, true, x, x)), i+2
	}
	if !impl.SessionOk(big) || len(impl.SaveSession(big)) != 0 {
		t.Error("a session of millions of bytes is told")
	}
	// of bytes that are too many nothing else is told
	for _, data := range [][]byte{make([]byte, 60001), append([]byte{83, 1}, make([]byte, 59999)...), bytes.Repeat([]byte{255}, 60001), append(impl.SaveSession(sessionOfLength(t, 60000)), 0)} {
		wantLoadCode(t, data, impl.CdLong)
	}
	wantLoadCode(t, make([]byte, 60000), impl.CdStart)
	wantLoadCode(t, append(tapeBy(1, 0, 1, 0, 0), make([]byte, 59993)...), impl.CdMore)
}

func TestLoadStarts(t *testing.T) {
	for _, data := range [][]byte{nil, {}, {83}, {1}, {1, 83}, {83, 0}, {83, 2}, {82, 1}, {83, 129}, {211, 1}, {0, 0, 1, 0, 1, 0, 0}, {83, 129, 0, 1, 0, 1, 0, 0}, {83, 2, 1, 0, 1, 0, 0}, []byte("S1")} {
		wantLoadCode(t, data, impl.CdStart)
	}
	wantLoadCode(t, []byte{83, 1}, impl.CdShort)
	wantLoadCode(t, []byte{83, 1, 1, 0, 1, 0, 0}, 0)
}

// storySession has all that can stand in one.
func storySession(t *testing.T) impl.Session {
	t.Helper()
	s := sessionBy(t, "declare a 4", "declare long9names 200", "equal a = #x3", "push", "declare c 2", "unlike (cat c c) ! (left 130 a)", "push", "equal (rep 2 (sign 1 c)) = (right 3 #b010011)")
	s.Next = 70000
	return s
}

func TestLoadEndsAtEachPlace(t *testing.T) {
	data := impl.SaveSession(storySession(t))
	for length := range data {
		want := int64(impl.CdShort)
		if length < 2 {
			want = impl.CdStart
		}
		wantLoadCode(t, data[:length], want)
		wantLoadCode(t, data[:length:length], want)
	}
	wantLoadCode(t, data, 0)
	for last := range 256 {
		wantLoadCode(t, append(slices.Clone(data), byte(last)), impl.CdMore)
	}
	wantLoadCode(t, slices.Concat(data, data), impl.CdMore)
}

// The promise: nothing else is read as a session. Each byte is changed to each
// other one, left out, and doubled.
func TestLoadOfChangedBytes(t *testing.T) {
	told := make(map[int64]int)
	for _, s := range []impl.Session{impl.Begin(), sessionBy(t, "declare a 2", "unlike a ! #b01"), storySession(t)} {
		data := impl.SaveSession(s)
		for place := range data {
			for b := range 256 {
				changed := slices.Clone(data)
				changed[place] = byte(b)
				got, code := checkLoad(t, changed)
				told[code]++
				if code == 0 && sameSession(got, s) != bytes.Equal(changed, data) {
					t.Fatalf("%v and %v are read as the same", data, changed)
				}
			}
			_, code := checkLoad(t, slices.Delete(slices.Clone(data), place, place+1))
			told[code]++
			for _, b := range []byte{0, 1, 2, data[place], 127, 128, 129, 255} {
				_, code := checkLoad(t, slices.Insert(slices.Clone(data), place, b))
				told[code]++
			}
		}
	}
	for code := range int64(9) {
		if told[code] < 10 && code != impl.CdLong {
			t.Errorf("the code %d is too seldom: %v", code, told)
		}
	}
}

func TestLoadOfAllShortBytes(t *testing.T) {
	told := make(map[int64]int)
	for _, text := range allTexts("\x00\x01\x02\x0da\x80\xff", 6) {
		_, code := checkLoad(t, append([]byte{83, 1}, text...))
		told[code]++
	}
	for _, text := range allTexts("\x00\x01\x02", 9) {
		_, code := checkLoad(t, append([]byte{83, 1}, text...))
		told[code]++
	}
	for _, code := range []int64{0, impl.CdShort, impl.CdNumber, impl.CdFlag, impl.CdCount, impl.CdMore, impl.CdSession} {
		if told[code] < 1 {
			t.Errorf("the code %d is not met: %v", code, told)
		}
	}
}

func TestLoadOfThrownBytes(t *testing.T) {
	d := dice{state: 312}
	for range 30000 {
		data := tapeBy(1, 1, 1, "a", 2, 1, 0, 1, 1)
		data = data[:2+d.below(len(data)-1)]
		for range d.below(30) {
			data = append(data, []byte{0, 1, 2, 3, 4, byte(d.below(256)), byte(d.below(13))}[d.below(7)])
		}
		checkLoad(t, data)
	}
}

// spots are the places at which a number stands, by what stands ahead and behind.
type spot struct {
	name          string
	ahead, behind []byte
	most          int64 // above it CdCount; -1 where that is never met
}

func spots() []spot {
	var all []spot
	add := func(name string, most int64, ahead []any, behind []any) {
		all = append(all, spot{name, tapeBy(ahead...), tapeBy(behind...)[2:], most})
	}
	of := func(words ...any) []any { return words }
	add("Next", -1, of(), of(0, 1, 0, 0))
	add("how many Decls", 60000, of(1), of())
	add("a name's length", 12, of(1, 1), of())
	add("a Decl's Width", 4096, of(1, 1, 1, "a"), of(1, 0, 0))
	add("how many Scopes", 60000, of(1, 0), of())
	add("a Scope's Decls", -1, of(1, 0, 1), of(0))
	add("how many Literals", 60000, of(1, 0, 1, 0), of())
	add("an Id", -1, of(2, 0, 1, 0, 1), of(1, 0, 0))
	add("how many nodes of S", 60000, of(2, 0, 1, 0, 1, 1, 1), of())
	add("an Op", -1, of(2, 0, 1, 0, 1, 1, 1, 1), of(0, 0, 0, 0, 0, 0))
	add("a Var", -1, of(2, 0, 1, 0, 1, 1, 1, 1, 1), of(0, 0, 0, 0, 0))
	add("an A", -1, of(2, 0, 1, 0, 1, 1, 1, 1, 1, 0), of(0, 0, 0, 0))
	add("a B", -1, of(2, 0, 1, 0, 1, 1, 1, 1, 1, 0, 0), of(0, 0, 0))
	add("a Value's Width", 4096, of(2, 0, 1, 0, 1, 1, 1, 1, 1, 0, 0, 0), of())
	add("how many Kids", 60000, of(2, 0, 1, 0, 1, 1, 1, 1, 1, 0, 0, 0, 0), of())
	add("a Kid", -1, of(2, 0, 1, 0, 1, 1, 1, 1, 1, 0, 0, 0, 0, 1), of(0))
	add("how many nodes of T", 60000, of(2, 0, 1, 0, 1, 1, 1, 0), of())
	return all
}

func TestLoadOfNumbers(t *testing.T) {
	long := func(count int, last ...byte) []byte { return append(bytes.Repeat([]byte{128}, count), last...) }
	ones := func(count int, last ...byte) []byte { return append(bytes.Repeat([]byte{255}, count), last...) }
	wrong := [][]byte{
		// not as short as can be, a 0 of two bytes first
		{128, 0}, {129, 0}, {255, 0}, {128, 128, 0}, {129, 128, 0}, {128, 129, 0}, {255, 255, 255, 0}, long(4, 0), ones(4, 0), long(5, 0), ones(5, 0), long(9, 0), long(10, 0), long(63, 0), long(64, 0), long(59000, 0),
		// above 1000000000
		numberOnTape(nil, 1000000001), numberOnTape(nil, 1<<30), numberOnTape(nil, 1<<31), numberOnTape(nil, 1<<32), numberOnTape(nil, 1<<32+1), numberOnTape(nil, 1<<34), numberOnTape(nil, 1<<35-1), numberOnTape(nil, 1<<35), numberOnTape(nil, 1<<35+1), numberOnTape(nil, 1<<62), numberOnTape(nil, math.MaxInt64), numberOnTape(nil, -1), numberOnTape(nil, math.MinInt64),
		// of very many bytes, also where a word of 32 or 64 bits would wrap
		long(5, 1), ones(5, 1), long(9, 1), long(9, 2), long(10, 1), ones(9, 1), ones(10, 1), ones(10, 127), long(16, 1), long(63, 1), long(64, 1), ones(100, 1), long(128, 1), ones(59000, 1),
	}
	for _, place := range spots() {
		for _, number := range wrong {
			wantLoadCode(t, slices.Concat(place.ahead, number, place.behind), impl.CdNumber)
			wantLoadCode(t, slices.Concat(place.ahead, number), impl.CdNumber)
			// bytes that end within a number
			for length := range min(len(number), 5) {
				wantLoadCode(t, slices.Concat(place.ahead, number[:length]), impl.CdShort)
			}
		}
		// a number that is longer than any may be is told as soon as it is
		for _, number := range [][]byte{long(5), ones(5), long(6), long(10), ones(59000)} {
			wantLoadCode(t, slices.Concat(place.ahead, number), impl.CdNumber)
		}
		for _, n := range []int64{0, 1, 127, 128, 16383, 16384, 1<<21 - 1, 1 << 21, 1<<28 - 1, 1 << 28, 999999999, 1000000000} {
			_, code := checkLoad(t, slices.Concat(place.ahead, numberOnTape(nil, n), place.behind))
			if code == impl.CdNumber {
				t.Errorf("%s of %d is a number", place.name, n)
			}
			if above := place.most >= 0 && n > place.most; above != (code == impl.CdCount) {
				t.Errorf("%s of %d: the code %d", place.name, n, code)
			}
		}
	}
}

func TestLoadOfCounts(t *testing.T) {
	for _, place := range spots() {
		for _, most := range []int64{12, 4096, 60000} {
			for _, more := range []int64{-1, 0, 1} {
				_, code := checkLoad(t, slices.Concat(place.ahead, numberOnTape(nil, most+more), place.behind))
				if want := place.most >= 0 && most+more > place.most; (code == impl.CdCount) != want {
					t.Errorf("%s of %d: the code %d", place.name, most+more, code)
				}
			}
		}
	}
	// just as many as there may be, and they are there
	wantLoadCode(t, tapeBy(1, 1, 12, "abcdefghijkl", 4096, 1, 0, 0), 0)
	wantLoadCode(t, tapeBy(1, 1, 13, "abcdefghijklm", 4096, 1, 0, 0), impl.CdCount)
	wantLoadCode(t, tapeBy(1, 1, 12, "abcdefghijkl", 4097, 1, 0, 0), impl.CdCount)
	wantLoadCode(t, tapeBy(1, 1, 0, "", 1, 1, 0, 0), impl.CdSession)
	wantLoadCode(t, tapeBy(1, 1, 1, "a", 0, 1, 0, 0), impl.CdSession)
	word := func(width, count int) []byte {
		return tapeBy(1, 2, 0, 0, 0, width, make([]byte, count), 0)[2:]
	}
	for width, want := range map[int]int64{1: 0, 8: 0, 9: 0, 64: 0, 65: 0, 4095: 0, 4096: 0, 0: impl.CdSession, 4097: impl.CdCount} {
		side := word(width, (width+7)/8)
		wantLoadCode(t, tapeBy(2, 0, 1, 0, 1, 1, 1, side, side), want)
	}
	// 29990 Kids are read, and are no right term
	wantLoadCode(t, tapeBy(2, 0, 1, 0, 1, 1, 1, 1, 3, 0, 0, 0, 0, 29990, make([]byte, 29990), word(1, 1)), impl.CdSession)
	// counts are as great as may be, but the bytes end
	wantLoadCode(t, tapeBy(1, 0, 60000, make([]byte, 59000)), impl.CdShort)
	wantLoadCode(t, tapeBy(1, 60000, make([]byte, 59000)), impl.CdShort)
}

func TestLoadOfFlags(t *testing.T) {
	ahead, side := tapeBy(2, 0, 1, 0, 1, 1), tapeBy(1, 2, 0, 0, 0, 1, 1, 0)[2:]
	for flag := range 256 {
		want := int64(impl.CdFlag)
		if flag < 2 {
			want = 0
		}
		got, code := checkLoad(t, slices.Concat(ahead, []byte{byte(flag)}, side, side))
		if code != want || code == 0 && got.Scopes[0].Literals[0].Equal != (flag == 1) {
			t.Errorf("the flag %d: %v, %d", flag, got, code)
		}
		if want != 0 {
			wantLoadCode(t, append(slices.Clone(ahead), byte(flag)), want)
		}
	}
	// a flag is one byte and no number
	wantLoadCode(t, slices.Concat(ahead, []byte{129, 0}, side, side), impl.CdFlag)
	wantLoadCode(t, ahead, impl.CdShort)
}

func TestLoadOfBitsAboveAWidth(t *testing.T) {
	for _, width := range []int{1, 2, 3, 7, 8, 9, 12, 15, 16, 63, 64, 65, 100, 4090, 4095, 4096} {
		count := (width + 7) / 8
		load := func(bit int) int64 {
			row := make([]byte, count)
			if bit >= 0 {
				row[bit/8] |= 1 << (bit % 8)
			}
			side := tapeBy(1, 2, 0, 0, 0, width, row, 0)[2:]
			fine := tapeBy(1, 2, 0, 0, 0, width, make([]byte, count), 0)[2:]
			_, s := checkLoad(t, tapeBy(2, 0, 1, 0, 1, 1, []byte{1}, side, fine))
			_, u := checkLoad(t, tapeBy(2, 0, 1, 0, 1, 1, []byte{0}, fine, side))
			if s != u {
				t.Fatalf("%d of %d: %d and %d", bit, width, s, u)
			}
			return s
		}
		for _, bit := range []int{-1, 0, width / 2, width - 1} {
			if code := load(bit); code != 0 {
				t.Errorf("the bit %d of %d: %d", bit, width, code)
			}
		}
		for bit := width; bit < 8*count; bit++ {
			if code := load(bit); code != impl.CdSession {
				t.Errorf("the bit %d above %d: %d", bit, width, code)
			}
		}
	}
}

// Of two faults at once the one that stands first is told.
func TestLoadTellsTheFirst(t *testing.T) {
	for _, c := range []struct {
		data []byte
		want int64
	}{
		{tapeBy(0, 61, []byte{128, 0}), impl.CdNumber}, {tapeBy([]byte{128, 0}, 60001), impl.CdNumber}, {tapeBy(0, 60001, []byte{128, 0}), impl.CdCount}, {tapeBy(1, 1, 13), impl.CdCount}, {tapeBy(1, 1, 13, []byte{128, 0}), impl.CdCount}, {tapeBy(1, 1, 12, "abc"), impl.CdShort}, {tapeBy(1, []byte{225, 212, 131, 0}), impl.CdNumber}, {tapeBy(1, 1000000001), impl.CdNumber}, {tapeBy(1, 1000000000), impl.CdCount},
		{tapeBy(2, 0, 1, 0, 1, 1, []byte{2}), impl.CdFlag}, {tapeBy(2, 0, 1, 0, 1, 1, []byte{2, 128, 0}), impl.CdFlag}, {tapeBy(2, 0, 1, 0, 1, []byte{128, 0, 2}), impl.CdNumber}, {tapeBy(2, 0, 1, 0, 1, 1, []byte{2}, 60001), impl.CdFlag}, {tapeBy(2, 0, 1, 0, 1, 1, []byte{1}, 60001, []byte{2}), impl.CdCount}, {tapeBy(2, 0, 1, 0, 60001, 1, []byte{2}), impl.CdCount},
		// bytes that are left are told ahead of what is no session, and behind all else
		{tapeBy(1, 0, 1, 1, 0), impl.CdSession}, {tapeBy(1, 0, 1, 1, 0, 0), impl.CdMore}, {tapeBy(0, 0, 1, 0, 0, 9), impl.CdMore}, {tapeBy(0, 0, 1, 0, 0), impl.CdSession}, {tapeBy(1, 0, 0), impl.CdSession}, {tapeBy(1, 0, 0, 0), impl.CdMore}, {tapeBy(1, 0, 2, 0, 0, 0), impl.CdShort}, {tapeBy(1, 0, 1, 0, 0, []byte{128, 0}), impl.CdMore},
		// what is no session, but reads as one
		{tapeBy(1, 0, 21, make([]byte, 42)), impl.CdSession}, {tapeBy(1, 0, 20, make([]byte, 40)), 0}, {tapeBy(1000000, 0, 1, 0, 0), 0}, {tapeBy(1000001, 0, 1, 0, 0), impl.CdSession}, {tapeBy(1000000000, 0, 1, 0, 0), impl.CdSession}, {tapeBy(1, 0, 1, 1000000000, 0), impl.CdSession}, {tapeBy(1, 1, 1, "A", 1, 1, 0, 0), impl.CdSession}, {tapeBy(1, 1, 1, "\xff", 1, 1, 0, 0), impl.CdSession}, {tapeBy(1, 2, 1, "a", 1, 1, "a", 1, 1, 0, 0), impl.CdSession}, {tapeBy(1, 1, 1, "a", 1, 2, 0, 0, 2, 0), impl.CdSession}, {tapeBy(1, 1, 1, "a", 1, 2, 0, 0, 1, 0), 0},
	} {
		wantLoadCode(t, c.data, c.want)
	}
}

// Wrong sessions have no bytes, and what would be theirs is no session.
func TestLoadOfWrongSessions(t *testing.T) {
	met := 0
	for _, s := range []impl.Session{{}, {Next: 1}, filledSession(3, 2, 3), filledSession(61, 3, 70), filledSession(21, 21, 30), {Decls: manyDecls(61, 1), Scopes: make([]impl.Scope, 1), Next: 1}, {Decls: manyDecls(60, 334), Scopes: make([]impl.Scope, 1), Next: 1}} {
		checkRight(t, "wrong", s)
		wantLoadCode(t, tapeOf(s), impl.CdSession)
	}
	base := sessionBy(t, "declare a 4", "equal a = (cat (part 1 0 a) #b01)")
	for _, x := range wrongTerms(base.Scopes[0].Literals[0].T) {
		s := sessionCopy(base)
		s.Scopes[0].Literals[0].T = x
		if rightSession(s) || slices.ContainsFunc(x.Nodes, cannotBeWritten) {
			continue
		}
		met++
		if _, code := checkLoad(t, tapeOf(s)); code == 0 {
			t.Errorf("%v is read", x)
		}
	}
	if met < 50 {
		t.Error("too few:", met)
	}
}

// cannotBeWritten: numbers below 0, and Bits that are not as wide as they say.
func cannotBeWritten(n impl.TNode) bool {
	numbers := append([]int64{n.Op, n.Var, n.A, n.B, n.Value.Width}, n.Kids...)
	return slices.Min(numbers) < 0 || int64(len(n.Value.Words)) != (n.Value.Width+63)/64 || n.Value.Width%64 != 0 && n.Value.Words[n.Value.Width/64]>>(n.Value.Width%64) != 0
}

func TestCodecKeeps(t *testing.T) {
	d := dice{state: 313}
	for range 80 {
		s := thrownSession(&d, d.below(60))
		keeps(t, impl.SaveSession, s)
		data := impl.SaveSession(s)
		keeps(t, impl.LoadSession, data)
		keeps(t, impl.LoadSession, data[:d.below(len(data))])
		keeps(t, impl.LoadSession, append(data, 0))
		data[d.below(len(data))]++
		keeps(t, impl.LoadSession, data)
		s.Next = 0
		keeps(t, impl.SaveSession, s)
	}
	full := sessionOfLength(t, 60000)
	keeps(t, impl.SaveSession, full)
	keeps(t, impl.LoadSession, impl.SaveSession(full))
	keeps(t, impl.SaveSession, sessionOfLength(t, 60001))
}
