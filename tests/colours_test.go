package tests

import (
	"fmt"
	"math"
	"slices"
	"strings"
	"testing"

	"loop.example/g00081/impl"
)

// wordsText writes words short, as rows: "0 1 10".
func wordsText(words []impl.Bits) string {
	var rows []string
	for _, b := range words {
		rows = append(rows, rowOfBits(b))
	}
	return strings.Join(rows, " ")
}

func wantBadGraph(t *testing.T, what string, g impl.Graph) {
	t.Helper()
	if impl.GraphOk(g) {
		t.Errorf("%s is right", what)
	}
	for _, node := range []int64{-1, 0, 1, int64(len(g.Widths)) - 1, int64(len(g.Widths))} {
		if n := impl.CrowdOf(g, node); n != -1 {
			t.Errorf("%s: the crowd of %d is %d", what, node, n)
		}
	}
	for _, most := range []int64{-1, 0, 1, impl.MaxVisits, impl.MaxVisits + 1} {
		if w, n, c := impl.Colour(g, most); len(w) != 0 || n != -1 || c != impl.ClBad {
			t.Errorf("%s with %d visits: %v, %d, %d", what, most, w, n, c)
		}
	}
	var words []impl.Bits
	for _, width := range g.Widths {
		b, _ := impl.BitsOf(width, 1)
		words = append(words, b)
	}
	if impl.ColourOk(g, words) || impl.ColourOk(g, nil) {
		t.Errorf("%s is coloured", what)
	}
}

// checkColour is asked of right graphs and bounds.
func checkColour(t *testing.T, g impl.Graph, most int64) (int64, int64) {
	t.Helper()
	if !impl.GraphOk(g) {
		t.Fatalf("%v is not right", g)
	}
	w, n, c := impl.Colour(g, most)
	rows, visits, code := colourByPicture(g, most)
	if n != visits || c != code || len(w) != len(rows) {
		t.Fatalf("%v with %d visits: %s, %d, %d, want %v, %d, %d", g, most, wordsText(w), n, c, rows, visits, code)
	}
	for node, row := range rows {
		wantRow(t, fmt.Sprint("the node ", node, " of ", g), w[node], true, row)
	}
	if c == impl.ClOk && (!impl.ColourOk(g, w) || breaks(g, rows)) {
		t.Fatalf("%v: %s breaks a Bar", g, wordsText(w))
	}
	return n, c
}

func TestGraphOkByHand(t *testing.T) {
	const least, most = math.MinInt64, math.MaxInt64
	two := widths(2, 2, 3)
	word := bitsOfRow("01")
	for _, g := range []impl.Graph{
		{}, graph([]int64{}), graph(widths(1)), graph(widths(4096)), graph(widths(1, 4096, 64, 65)), graph(slices.Repeat(widths(1), 200)), graph(two, bar(0, 1)), graph(two, bar(1, 0)), graph(two, barTo(0, "01")), graph(two, barTo(2, "011"), barTo(2, "111")), graph(two, impl.Bar{A: 0, B: 1, Value: impl.Bits{Words: []uint64{}}}), graph(two, slices.Repeat([]impl.Bar{bar(0, 1)}, 1000)...), graph(widths(4096, 4096), barTo(1, strings.Repeat("1", 4096)), bar(0, 1)),
	} {
		if !impl.GraphOk(g) || !rightGraph(g) {
			t.Errorf("%v is not right", g)
		}
		checkColour(t, g, impl.MaxVisits)
	}
	for what, g := range map[string]impl.Graph{
		"201 Widths": graph(slices.Repeat(widths(1), 201)), "a Width of 0": graph(widths(1, 0)), "a Width of -1": graph(widths(-1, 1)), "a Width of 4097": graph(widths(1, 4097)), "the least Width": graph(widths(1, least)), "the greatest Width": graph(widths(most)), "1001 Bars": graph(two, slices.Repeat([]impl.Bar{bar(0, 1)}, 1001)...), "1001 Bars of Values": graph(two, slices.Repeat([]impl.Bar{barTo(0, "01")}, 1001)...),
		"a Bar in no graph": graph(nil, bar(0, 1)), "a Bar with a Value in no graph": graph(nil, barTo(0, "1")), "a node and itself": graph(two, bar(1, 1)), "a node and itself, with a Value": graph(two, impl.Bar{A: 1, B: 1, Value: word}), "unlike widths": graph(two, bar(1, 2)), "unlike widths the other way round": graph(two, bar(2, 0)), "two nodes with a Value": graph(two, impl.Bar{A: 0, B: 1, Value: word}), "two nodes with a width": graph(two, impl.Bar{A: 0, B: 1, Value: impl.Bits{Width: 2}}), "two nodes with words": graph(two, impl.Bar{A: 0, B: 1, Value: impl.Bits{Words: []uint64{0}}}),
		"B -1 without a Value": graph(two, bar(0, -1)), "a Value of a lesser width": graph(two, barTo(0, "1")), "a Value of a greater width": graph(two, barTo(0, "011")), "B -2": graph(two, impl.Bar{A: 0, B: -2, Value: word}), "B -2 without a Value": graph(two, bar(0, -2)), "the least B": graph(two, bar(0, least)), "the least B with a Value": graph(two, impl.Bar{A: 0, B: least, Value: word}), "the greatest B": graph(two, bar(0, most)), "B behind the last node": graph(two, bar(0, 3)),
		"A behind the last node": graph(two, bar(3, 0)), "A behind the last node with a Value": graph(two, barTo(3, "01")), "A -1": graph(two, bar(-1, 0)), "A and B -1": graph(two, bar(-1, -1)), "A -1 with a Value": graph(two, barTo(-1, "01")), "the least A": graph(two, bar(least, 0)), "the greatest A": graph(two, bar(most, 0)), "the least A with a Value": graph(two, barTo(least, "01")), "the greatest A with a Value": graph(two, barTo(most, "01")), "nodes 2 to the 32 away": graph(two, bar(1<<32, 1<<32+1)), "a wrong Bar behind right ones": graph(two, bar(0, 1), barTo(0, "01"), bar(0, 0)), "a wrong Bar ahead of right ones": graph(two, bar(0, 2), bar(0, 1)),
	} {
		if rightGraph(g) {
			t.Fatalf("%s is right by the document", what)
		}
		wantBadGraph(t, what, g)
	}
	for _, b := range wrongBits() {
		width := min(max(b.Width, 1), 4096)
		wantBadGraph(t, fmt.Sprint("the Value ", b), graph(widths(width), impl.Bar{A: 0, B: -1, Value: b}))
	}
}

func TestGraphOkOfThrownGraphs(t *testing.T) {
	d := dice{state: 131}
	told := [2]int{}
	for range 4000 {
		g := thrownGraph(&d, thrownWidths(&d, 1+d.below(12), 4), d.below(6))
		switch b := d.below(6); {
		case len(g.Bars) == 0:
		case b == 0:
			g.Bars[0].A += int64(d.below(3) - 1)
		case b == 1:
			g.Bars[0].B += int64(d.below(3) - 1)
		case b == 2:
			g.Widths[d.below(len(g.Widths))] += int64(d.below(3) - 1)
		case b == 3:
			g.Bars[0].Value = bitsOfRow(d.row(1 + d.below(3)))
		}
		got, want := impl.GraphOk(g), rightGraph(g)
		if got != want {
			t.Fatalf("%v is right: %v", g, got)
		}
		if want {
			told[1]++
		} else {
			told[0]++
		}
	}
	if told[0] < 500 || told[1] < 500 {
		t.Errorf("too seldom: %v", told)
	}
}

func TestCrowdOfByHand(t *testing.T) {
	const least, most = math.MinInt64, math.MaxInt64
	ws := widths(2, 2, 2, 1, 70)
	wide := strings.Repeat("1", 70)
	for _, c := range []struct {
		bars []impl.Bar
		want string
	}{
		{nil, "[0 0 0 0 0]"}, {[]impl.Bar{bar(0, 1)}, "[1 1 0 0 0]"}, {[]impl.Bar{bar(2, 0)}, "[1 0 1 0 0]"}, {[]impl.Bar{bar(0, 1), bar(0, 2)}, "[2 1 1 0 0]"}, {[]impl.Bar{bar(1, 0), bar(0, 2), bar(2, 1)}, "[2 2 2 0 0]"},
		// what stands twice, also the other way round
		{[]impl.Bar{bar(0, 1), bar(0, 1)}, "[1 1 0 0 0]"}, {[]impl.Bar{bar(0, 1), bar(1, 0)}, "[1 1 0 0 0]"}, {[]impl.Bar{bar(1, 0), bar(0, 2), bar(0, 1), bar(2, 0), bar(1, 0)}, "[2 1 1 0 0]"},
		// Values
		{[]impl.Bar{barTo(0, "00")}, "[1 0 0 0 0]"}, {[]impl.Bar{barTo(0, "00"), barTo(0, "01"), barTo(0, "00")}, "[2 0 0 0 0]"}, {[]impl.Bar{barTo(0, "00"), barTo(1, "00"), barTo(1, "11")}, "[1 2 0 0 0]"}, {[]impl.Bar{barTo(3, "0"), barTo(3, "1"), barTo(3, "1")}, "[0 0 0 2 0]"}, {[]impl.Bar{barTo(4, wide), barTo(4, "0"+wide[1:]), barTo(4, wide[1:]+"0"), barTo(4, wide)}, "[0 0 0 0 3]"},
		// both
		{[]impl.Bar{barTo(0, "00"), bar(0, 1), barTo(0, "01"), bar(2, 0), bar(0, 1), barTo(0, "00"), barTo(2, "01")}, "[4 1 2 0 0]"}, {[]impl.Bar{bar(0, 1), barTo(0, "01"), barTo(1, "01")}, "[2 2 0 0 0]"},
	} {
		g := graph(ws, c.bars...)
		var crowds []int64
		for node := range int64(len(ws)) {
			crowds = append(crowds, impl.CrowdOf(g, node))
		}
		if fmt.Sprint(crowds) != c.want {
			t.Errorf("%s: %v, want %s", barsText(c.bars), crowds, c.want)
		}
		for _, node := range []int64{-1, 5, 6, least, most} {
			if n := impl.CrowdOf(g, node); n != -1 {
				t.Errorf("the crowd of %d is %d", node, n)
			}
		}
	}
	for _, node := range []int64{-1, 0, 1} {
		if n := impl.CrowdOf(impl.Graph{}, node); n != -1 {
			t.Errorf("the crowd of %d in nothing is %d", node, n)
		}
	}
}

func TestCrowdOfThrownGraphs(t *testing.T) {
	d := dice{state: 132}
	for range 1000 {
		g := thrownGraph(&d, thrownWidths(&d, 1+d.below(20), 3), d.below(30))
		for node := range int64(len(g.Widths)) {
			if got, want := impl.CrowdOf(g, node), len((sheet{g: g}).against(node)); got != int64(want) {
				t.Fatalf("the crowd of %d in %v is %d, want %d", node, g, got, want)
			}
		}
	}
}

// allBarred forbids each of the first words.
func allBarred(node int64, width, count int) []impl.Bar {
	var bars []impl.Bar
	for n := range count {
		bars = append(bars, barTo(node, fmt.Sprintf("%0*b", width, n)))
	}
	return bars
}

// allApart are Bars between any two of the first nodes.
func allApart(count int64) []impl.Bar {
	var bars []impl.Bar
	for b := range count {
		for a := range b {
			bars = append(bars, bar(a, b))
		}
	}
	return bars
}

// ring has a Bar between each node and the next one.
func ring(count int64) []impl.Bar {
	var bars []impl.Bar
	for a := range count {
		bars = append(bars, bar(a, (a+1)%count))
	}
	return bars
}

func TestColourByHand(t *testing.T) {
	ones := slices.Repeat(widths(1), 5)
	twos := slices.Repeat(widths(2), 5)
	for _, c := range []struct {
		g      impl.Graph
		most   int64
		rows   string
		visits int64
		code   int64
	}{
		// nothing is narrow
		{impl.Graph{}, 0, "", 0, 0}, {graph(widths(1, 3, 2)), 0, "0 000 00", 0, 0}, {graph(ones[:2], bar(0, 1)), 0, "0 1", 0, 0}, {graph(ones[:2], bar(1, 0)), 0, "0 1", 0, 0}, {graph(ones[:2], bar(0, 1), bar(1, 0), bar(0, 1)), 0, "0 1", 0, 0}, {graph(ones[:1], barTo(0, "0"), barTo(0, "0")), 0, "1", 0, 0}, {graph(ones[:1], barTo(0, "1")), 0, "0", 0, 0}, {graph(twos[:3], ring(3)...), 0, "00 01 10", 0, 0}, {graph(twos[:4], allApart(4)...), 0, "00 01 10 11", 0, 0}, {graph(twos[:3], bar(0, 1), barTo(0, "00"), barTo(1, "10"), bar(1, 2)), 20000, "01 00 01", 0, 0}, {graph(widths(2, 1, 2, 1), bar(2, 0), bar(3, 1)), 0, "00 0 01 1", 0, 0},
		// one narrow node
		{graph(twos[:3], bar(0, 1), barTo(0, "00"), barTo(1, "10"), bar(1, 2), barTo(1, "00")), 20000, "10 01 00", 1, 0}, {graph(ones[:1], barTo(0, "0"), barTo(0, "1")), 1, "", 1, 2}, {graph(ones[:1], barTo(0, "0"), barTo(0, "1")), 0, "", 0, 3}, {graph(ones[:3], bar(0, 2), bar(1, 2)), 9, "1 1 0", 1, 0}, {graph(ones[:2], bar(0, 1), barTo(1, "0")), 1, "0 1", 1, 0}, {graph(ones[:2], bar(0, 1), barTo(1, "1")), 1, "1 0", 1, 0}, {graph(ones[:2], bar(0, 1), barTo(1, "1")), 0, "", 0, 3}, {graph(twos[:4], append(allApart(4), barTo(0, "00"), barTo(0, "01"), barTo(0, "10"))...), 1, "11 00 01 10", 1, 0}, {graph(twos[:4], append(allApart(4), barTo(3, "01"))...), 1, "01 10 11 00", 1, 0},
		// rings
		{graph(ones[:3], ring(3)...), 100, "", 5, 2}, {graph(ones[:3], ring(3)...), 5, "", 5, 2}, {graph(ones[:3], ring(3)...), 4, "", 4, 3}, {graph(ones[:3], ring(3)...), 1, "", 1, 3}, {graph(ones[:3], ring(3)...), 0, "", 0, 3}, {graph(ones[:4], ring(4)...), 100, "0 1 0 1", 4, 0}, {graph(ones[:4], ring(4)...), 4, "0 1 0 1", 4, 0}, {graph(ones[:4], ring(4)...), 3, "", 3, 3}, {graph(ones, ring(5)...), 100, "", 9, 2},
		// it comes back from a later node: to the one ahead of it, and to the first one
		{graph(ones[:3], bar(0, 1), bar(0, 2), barTo(1, "1"), barTo(2, "1")), 100, "1 0 0", 4, 0}, {graph(ones[:4], append(ring(4), barTo(3, "1"))...), 100, "1 0 1 0", 7, 0}, {graph(ones[:4], append(ring(4), barTo(3, "1"))...), 7, "1 0 1 0", 7, 0}, {graph(ones[:4], append(ring(4), barTo(3, "1"))...), 6, "", 6, 3}, {graph(ones[:4], append(ring(4), barTo(3, "1"), barTo(1, "0"))...), 100, "", 5, 2}, {graph(ones[:4], append(ring(4), barTo(3, "0"), barTo(0, "0"))...), 100, "", 4, 2},
		// all apart
		{graph(twos, allApart(5)...), 100, "", 65, 2}, {graph(twos, allApart(5)...), 64, "", 64, 3}, {graph(twos[:4], append(allApart(4), barTo(0, "00"), barTo(1, "00"), barTo(2, "00"), barTo(3, "00"))...), 100, "", 16, 2}, {graph(twos[:4], append(allApart(4), barTo(0, "00"), barTo(1, "01"), barTo(2, "10"), barTo(3, "11"))...), 100, "01 00 11 10", 4, 0},
		// some are narrow, others are not, and get theirs behind them
		{graph(widths(2, 1, 2, 1, 1), bar(0, 2), barTo(0, "00"), bar(1, 3), bar(3, 4), bar(1, 4), barTo(2, "01")), 100, "", 5, 2}, {graph(widths(2, 1, 2, 1, 1), bar(0, 2), barTo(0, "00"), bar(1, 4), bar(3, 4), barTo(2, "01")), 100, "01 1 00 1 0", 1, 0}, {graph(ones, bar(0, 4), bar(0, 3), bar(2, 4), barTo(4, "0"), barTo(1, "0")), 100, "0 1 0 1 1", 2, 0},
	} {
		w, n, code := impl.Colour(c.g, c.most)
		if wordsText(w) != c.rows || n != c.visits || code != c.code {
			t.Errorf("%v %s with %d visits: %s, %d, %d, want %s, %d, %d", c.g.Widths, barsText(c.g.Bars), c.most, wordsText(w), n, code, c.rows, c.visits, c.code)
		}
		checkColour(t, c.g, c.most)
	}
}

func TestColourBoundsOfMost(t *testing.T) {
	g := graph(widths(1, 1, 1), ring(3)...)
	for _, most := range []int64{-1, -2, impl.MaxVisits + 1, math.MinInt64, math.MaxInt64} {
		for _, g := range []impl.Graph{g, {}, graph(widths(1, 0))} {
			if w, n, c := impl.Colour(g, most); len(w) != 0 || n != -1 || c != impl.ClBad {
				t.Errorf("%d visits: %v, %d, %d", most, w, n, c)
			}
		}
	}
	for most := range int64(9) {
		checkColour(t, g, most)
	}
	if n, c := checkColour(t, g, impl.MaxVisits); n != 5 || c != impl.ClNone {
		t.Errorf("%d, %d", n, c)
	}
	// nine apart of three bits would need 109601 visits
	apart := graph(slices.Repeat(widths(3), 9), allApart(9)...)
	for _, most := range []int64{0, 1, 8, 19999, 20000} {
		if n, c := checkColour(t, apart, most); n != most || c != impl.ClMany {
			t.Errorf("%d visits: %d, %d", most, n, c)
		}
	}
}

// A crowd of 2 to the width makes a node narrow, one less does not.
func TestColourAtTheCrowd(t *testing.T) {
	for width := 1; width <= 9; width++ {
		count := 1 << width
		last := strings.Repeat("1", width)
		bars := allBarred(0, width, count)
		alone, pair := widths(int64(width)), widths(int64(width), int64(width))
		for _, c := range []struct {
			g      impl.Graph
			crowd  int
			rows   string
			visits int64
			code   int64
		}{
			{graph(alone, bars[:count-1]...), count - 1, last, 0, impl.ClOk}, {graph(alone, bars...), count, "", 1, impl.ClNone}, {graph(alone, append(bars[:count-1:count-1], bars[:count-1]...)...), count - 1, last, 0, impl.ClOk}, {graph(pair, append(bars[:count-1:count-1], bar(1, 0))...), count, last + " " + strings.Repeat("0", width), 1, impl.ClOk}, {graph(pair, append(bars[1:count-1:count-1], bar(1, 0))...), count - 1, strings.Repeat("0", width) + " " + fmt.Sprintf("%0*b", width, 1), 0, impl.ClOk},
		} {
			if len(c.g.Bars) > impl.MaxBars {
				continue
			}
			if n := impl.CrowdOf(c.g, 0); n != int64(c.crowd) {
				t.Errorf("width %d: the crowd is %d, want %d", width, n, c.crowd)
			}
			w, n, code := impl.Colour(c.g, 10)
			if wordsText(w) != c.rows || n != c.visits || code != c.code {
				t.Errorf("width %d, crowd %d: %s, %d, %d, want %s, %d, %d", width, c.crowd, wordsText(w), n, code, c.rows, c.visits, c.code)
			}
			checkColour(t, c.g, 0)
			checkColour(t, c.g, 1)
		}
	}
	// of these no crowd is great enough, with all the Bars that there may be
	for _, width := range []int{10, 11, 64, 65, 4096} {
		for _, count := range []int{999, 1000} {
			g := graph(widths(int64(width)), allBarred(0, width, count)...)
			w, n, c := impl.Colour(g, 0)
			if impl.CrowdOf(g, 0) != int64(count) || n != 0 || c != impl.ClOk || wordsText(w) != fmt.Sprintf("%0*b", width, count) {
				t.Errorf("width %d, %d Bars: %s, %d, %d", width, count, short(wordsText(w)), n, c)
			}
		}
	}
	g := graph(widths(10, 10), append(allBarred(0, 10, 999), bar(0, 1))...)
	w, n, c := impl.Colour(g, 0)
	if wordsText(w) != fmt.Sprintf("%010b %010b", 999, 0) || n != 0 || c != impl.ClOk {
		t.Errorf("%s, %d, %d", wordsText(w), n, c)
	}
}

// Values that are alike in their lowest bits only forbid nothing else.
func TestColourOfGreatValues(t *testing.T) {
	power := func(width, bit int) string {
		return strings.Repeat("0", width-1-bit) + "1" + strings.Repeat("0", bit)
	}
	for _, width := range []int{11, 12, 33, 63, 64, 65, 66, 128, 129, 4096} {
		zero := strings.Repeat("0", width)
		for _, bit := range []int{10, 11, 31, 32, 62, 63, 64, 65, 127, 128, 4095} {
			if bit >= width {
				continue
			}
			for _, c := range []struct {
				bars []impl.Bar
				want string
			}{
				{[]impl.Bar{barTo(0, power(width, bit))}, zero}, {[]impl.Bar{barTo(0, zero), barTo(0, power(width, bit))}, power(width, 0)}, {[]impl.Bar{barTo(0, power(width, bit)), barTo(0, power(width, 0)), barTo(0, zero)}, power(width, 1)},
			} {
				g := graph(widths(int64(width)), c.bars...)
				if w, n, code := impl.Colour(g, 0); n != 0 || code != impl.ClOk || wordsText(w) != c.want {
					t.Errorf("width %d, bit %d: %s, %d, %d, want %s", width, bit, short(wordsText(w)), n, code, short(c.want))
				}
				checkColour(t, g, 0)
			}
		}
	}
}

func TestColourOfManyNodes(t *testing.T) {
	ones := slices.Repeat(widths(1), 200)
	if n, c := checkColour(t, graph(ones, ring(200)...), 200); n != 200 || c != impl.ClOk {
		t.Errorf("%d, %d", n, c)
	}
	if n, c := checkColour(t, graph(ones, ring(200)...), 199); n != 199 || c != impl.ClMany {
		t.Errorf("%d, %d", n, c)
	}
	if n, c := checkColour(t, graph(ones, ring(199)...), impl.MaxVisits); n != 397 || c != impl.ClNone {
		t.Errorf("%d, %d", n, c)
	}
	var star []impl.Bar
	for node := range int64(199) {
		star = append(star, bar(node, 199))
	}
	if n, c := checkColour(t, graph(ones, star...), 1); n != 1 || c != impl.ClOk {
		t.Errorf("%d, %d", n, c)
	}
	wide := graph(slices.Repeat(widths(4096), 45), allApart(45)[:990]...)
	if n, c := checkColour(t, wide, 0); n != 0 || c != impl.ClOk {
		t.Errorf("%d, %d", n, c)
	}
}

// Stars whose middles are narrow and may have either word, ahead of a node each
// of whose words is forbidden: each choice is tried.
func TestColourTriesEachChoice(t *testing.T) {
	stars := func(count int64) impl.Graph {
		g := graph(append(slices.Repeat(widths(1), int(3*count)), 9), allBarred(3*count, 9, 512)...)
		for star := range count {
			g.Bars = append(g.Bars, bar(3*star, 3*star+1), bar(3*star+2, 3*star))
		}
		return g
	}
	for _, c := range []struct{ stars, most, visits, code int64 }{
		{0, 1, 1, impl.ClNone}, {0, 0, 0, impl.ClMany}, {3, 15, 15, impl.ClNone}, {3, 14, 14, impl.ClMany}, {13, 20000, 16383, impl.ClNone}, {13, 16383, 16383, impl.ClNone}, {13, 16382, 16382, impl.ClMany}, {14, 20000, 20000, impl.ClMany},
	} {
		if w, n, code := impl.Colour(stars(c.stars), c.most); len(w) != 0 || n != c.visits || code != c.code {
			t.Errorf("%d stars with %d visits: %v, %d, %d, want %d, %d", c.stars, c.most, w, n, code, c.visits, c.code)
		}
	}
	checkColour(t, stars(3), 15)
	checkColour(t, stars(3), 14)
}

func TestColourOfThrownGraphs(t *testing.T) {
	d := dice{state: 133}
	told := make(map[int64]int)
	back := 0
	for range 6000 {
		g := thrownGraph(&d, thrownWidths(&d, 2+d.below(16), 1+d.below(3)), d.below(24))
		n, c := checkColour(t, g, impl.MaxVisits)
		told[c]++
		if c == impl.ClOk && n > int64(len(sheet{g: g}.narrow())) {
			back++
		}
		for _, most := range []int64{n, n + 1, n - 1, n / 2, 0} {
			if most >= 0 {
				_, c := checkColour(t, g, most)
				told[c]++
			}
		}
	}
	if told[impl.ClOk] < 2000 || told[impl.ClNone] < 2000 || told[impl.ClMany] < 2000 || back < 60 {
		t.Errorf("too seldom: %v, %d come back", told, back)
	}
}

// rowsOfAll are all rows for nodes of a few bits in all.
func rowsOfAll(widths []int64) [][]string {
	total := int64(0)
	for _, width := range widths {
		total += width
	}
	var all [][]string
	for _, row := range allRows(int(total)) {
		var rows []string
		for _, width := range widths {
			rows, row = append(rows, row[:width]), row[width:]
		}
		all = append(all, rows)
	}
	return all
}

// checkAllWords is the promise: words that are told break no Bar; where none are told there are none.
func checkAllWords(t *testing.T, g impl.Graph, all [][]string) int64 {
	t.Helper()
	w, _, c := impl.Colour(g, impl.MaxVisits)
	some := slices.ContainsFunc(all, func(rows []string) bool { return !breaks(g, rows) })
	if c != impl.ClOk && c != impl.ClNone || some != (c == impl.ClOk) {
		t.Fatalf("%v: %s, %d; there are some: %v", g, wordsText(w), c, some)
	}
	if c == impl.ClOk {
		var rows []string
		for node, b := range w {
			rows = append(rows, rowOfBits(b))
			if !impl.BitsOk(b) || b.Width != g.Widths[node] {
				t.Fatalf("%v: %v", g, w)
			}
		}
		if breaks(g, rows) {
			t.Fatalf("%v: %s breaks a Bar", g, wordsText(w))
		}
	}
	return c
}

func TestColourByAllWords(t *testing.T) {
	d := dice{state: 134}
	told := make(map[int64]int)
	for range 2500 {
		g := thrownGraph(&d, thrownWidths(&d, 1+d.below(8), 1+d.below(4)), d.below(28))
		told[checkAllWords(t, g, rowsOfAll(g.Widths))]++
	}
	// all Bars that there may be, in each choice of them
	for _, ws := range [][]int64{widths(1), widths(2), widths(3), widths(1, 1), widths(2, 1), widths(2, 2), widths(1, 1, 1), widths(1, 2, 1)} {
		var bars []impl.Bar
		for node, width := range ws {
			bars = append(bars, allBarred(int64(node), int(width), 1<<width)...)
			for other := range node {
				if ws[other] == width {
					bars = append(bars, bar(int64(node), int64(other)))
				}
			}
		}
		all := rowsOfAll(ws)
		for choice := range 1 << len(bars) {
			g := impl.Graph{Widths: ws}
			for i, b := range bars {
				if choice>>i&1 > 0 {
					g.Bars = append(g.Bars, b)
				}
			}
			told[checkAllWords(t, g, all)]++
			checkColour(t, g, 100)
		}
	}
	if told[impl.ClOk] < 1000 || told[impl.ClNone] < 1000 {
		t.Errorf("too seldom: %v", told)
	}
}

func TestColourOkByAllWords(t *testing.T) {
	d := dice{state: 135}
	told := make(map[bool]int)
	for range 300 {
		g := thrownGraph(&d, thrownWidths(&d, 1+d.below(7), 1+d.below(3)), d.below(8))
		for _, rows := range rowsOfAll(g.Widths) {
			want := !breaks(g, rows)
			if got := impl.ColourOk(g, valuesOfRows(rows)); got != want {
				t.Fatalf("%v by %v: %v", g, rows, got)
			}
			told[want]++
		}
	}
	if told[false] < 1000 || told[true] < 1000 {
		t.Errorf("too seldom: %v", told)
	}
}

func TestColourOkRefuses(t *testing.T) {
	g := graph(widths(2, 2, 3), bar(0, 1), barTo(2, "000"))
	words := func(rows ...string) []impl.Bits { return valuesOfRows(rows) }
	for _, c := range []struct {
		what  string
		g     impl.Graph
		words []impl.Bits
		want  bool
	}{
		{"right", g, words("00", "01", "001"), true}, {"other right ones", g, words("11", "01", "111"), true}, {"nothing for nothing", impl.Graph{}, nil, true}, {"no Bars", graph(widths(2, 2)), words("01", "01"), true},
		{"a Bar is broken", g, words("01", "01", "001"), false}, {"the last Bar is broken", g, words("00", "01", "000"), false}, {"a Bar the other way round", graph(widths(2, 2), bar(1, 0)), words("10", "10"), false},
		{"none", g, nil, false}, {"too few", g, words("00", "01"), false}, {"too many", g, words("00", "01", "001", "001"), false}, {"some for nothing", impl.Graph{}, words("0"), false},
		{"a lesser width", g, words("00", "1", "001"), false}, {"a greater width", g, words("00", "001", "001"), false}, {"another order", g, words("001", "00", "01"), false}, {"another width without Bars", graph(widths(2, 2)), words("01", "1"), false},
	} {
		if got := impl.ColourOk(c.g, c.words); got != c.want {
			t.Errorf("%s: %v", c.what, got)
		}
	}
	for _, b := range wrongBits() {
		width := min(max(b.Width, 1), 4096)
		for _, bars := range [][]impl.Bar{nil, {bar(0, 1)}, {barTo(0, strings.Repeat("1", int(width)))}} {
			zero := bitsOfRow(strings.Repeat("0", int(width)))
			if impl.ColourOk(graph(widths(width, width), bars...), []impl.Bits{b, zero}) || impl.ColourOk(graph(widths(width, width), bars...), []impl.Bits{zero, b}) {
				t.Errorf("%v is a word", b)
			}
		}
	}
	high, low := "1"+strings.Repeat("0", 4095), "0"+strings.Repeat("0", 4095)
	wide := graph(widths(4096, 4096), bar(0, 1), barTo(0, high))
	for _, c := range []struct {
		a, b string
		want bool
	}{{high, low, false}, {low, high, true}, {low, low, false}, {low[1:] + "1", low, true}} {
		if got := impl.ColourOk(wide, words(c.a, c.b)); got != c.want {
			t.Errorf("wide words: %v", got)
		}
	}
}

// From literals to words: the Bars that must be kept, as a graph of all classes.
func TestColourOfMustBars(t *testing.T) {
	d := dice{state: 136}
	told := make(map[int64]int)
	for range 400 {
		decls := manyDecls(2+d.below(3), int64(1+d.below(2)))
		list := thrownRowsOfParts(&d, decls, 1+d.below(9), 1)
		cl, _ := impl.ClassesOf(decls, list, impl.Cuts{At: make([][]int64, len(decls))})
		splits, ok := impl.SplitsOf(decls, list, cl)
		if !ok {
			continue
		}
		g := impl.Graph{Bars: impl.MustBars(splits)}
		for range cl.List {
			g.Widths = append(g.Widths, decls[0].Width)
		}
		_, c := checkColour(t, g, impl.MaxVisits)
		told[c]++
		fails := slices.ContainsFunc(splits, func(s impl.Split) bool { return s.State == impl.SpFalse })
		if some := len(valuesOfAll(decls, list)) > 0; some != (c == impl.ClOk && !fails) {
			t.Fatalf("%v of %v: %d", splits, list, c)
		}
	}
	if told[impl.ClOk] < 50 || told[impl.ClNone] < 20 {
		t.Errorf("too seldom: %v", told)
	}
}

func TestColoursKeep(t *testing.T) {
	d := dice{state: 137}
	for range 400 {
		ws := thrownWidths(&d, 2+d.below(12), 3)
		if d.below(3) == 0 {
			ws = append(ws, 70, 70, int64(d.below(2)))
		}
		g := impl.Graph{Widths: ws}
		if !slices.Contains(ws, 0) {
			g = thrownGraph(&d, ws, d.below(14))
		}
		keeps(t, impl.GraphOk, g)
		keeps(t, impl.CrowdOf, g, int64(d.below(len(ws)+1)))
		keeps(t, impl.Colour, g, int64(d.below(30)))
		keeps(t, impl.Colour, g, int64(impl.MaxVisits))
		w, _, _ := impl.Colour(g, impl.MaxVisits)
		keeps(t, impl.ColourOk, g, w)
	}
}
