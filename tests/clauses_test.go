package tests

import (
	"fmt"
	"math"
	"slices"
	"strings"
	"testing"

	"loop.example/g00081/impl"
)

func checkUnit(t *testing.T, c impl.Cnf, set []int64) ([]int64, bool) {
	t.Helper()
	got, ok := impl.Unit(c, set)
	want, wantOk := followedByWords(c, set)
	if ok != wantOk || !slices.Equal(got, want) {
		t.Fatalf("%v by %v: %v, %v, want %v, %v", c, set, got, ok, want, wantOk)
	}
	return got, ok
}

func checkSettle(t *testing.T, c impl.Cnf, most int64) string {
	t.Helper()
	got, want := settleText(impl.Settle(c, most)), settledByPicture(c, most)
	if got != want {
		t.Fatalf("%v with %d: %s, want %s", c, most, got, want)
	}
	return got
}

// wantNoCnf asks all functions of a Cnf that is not right.
func wantNoCnf(t *testing.T, what string, c impl.Cnf) {
	t.Helper()
	if impl.CnfOk(c) {
		t.Errorf("%s: right", what)
	}
	for _, on := range [][]bool{nil, {true}, {false, true}, make([]bool, max(0, min(c.Switches, 500)))} {
		if impl.Meets(c, on) {
			t.Errorf("%s: met by %v", what, on)
		}
	}
	for _, set := range [][]int64{nil, {}, {1}, {-1}} {
		if got, ok := impl.Unit(c, set); ok || len(got) != 0 {
			t.Errorf("%s by %v: %v, %v", what, set, got, ok)
		}
	}
	for _, most := range []int64{0, 10, manyVisits, -1} {
		if got := settleText(impl.Settle(c, most)); got != "bad -1" {
			t.Errorf("%s with %d: %s", what, most, got)
		}
	}
}

func TestCnfOkByHand(t *testing.T) {
	for _, c := range []impl.Cnf{{}, cnf(0), cnf(0, ""), cnf(0, "", ""), cnf(1), cnf(1, "1"), cnf(1, "-1"), cnf(1, "1", "-1", "1", ""), cnf(3, "1 2 3", "-1 2 -3", "1 3", "-3", "-2 3"), cnf(400), cnf(400, "400", "-400", "1 400", "-1 -400"), {Switches: 400, Clauses: [][]int64{rising(1, 400)}}, {Switches: 400, Clauses: make([][]int64, 4000)}, {Switches: 400, Clauses: slices.Repeat([][]int64{rising(1, 400)}, 4000)}} {
		if !impl.CnfOk(c) || len(c.Clauses) < 100 && !rightCnf(c) {
			t.Errorf("%s is right", short(fmt.Sprint(c)))
		}
	}
	wide := slices.Repeat([][]int64{rising(1, 400)}, 4000)
	wide[3999] = append(rising(1, 399), 399)
	for what, c := range map[string]impl.Cnf{
		"fewer than no switches":     cnf(-1),
		"too many switches":          cnf(401),
		"the least of switches":      cnf(math.MinInt64),
		"the most of switches":       cnf(math.MaxInt64),
		"the most, and its number":   {Switches: math.MaxInt64, Clauses: [][]int64{{math.MaxInt64}}},
		"the least, and a clause":    {Switches: math.MinInt64, Clauses: [][]int64{{}}},
		"a number without switches":  cnf(0, "1"),
		"4001 clauses":               {Switches: 3, Clauses: make([][]int64, 4001)},
		"4001 of no switches":        {Clauses: make([][]int64, 4001)},
		"401 numbers":                {Switches: 400, Clauses: [][]int64{rising(1, 401)}},
		"401 numbers, one twice":     {Switches: 400, Clauses: [][]int64{append(rising(1, 400), 400)}},
		"400 numbers of 399":         {Switches: 399, Clauses: [][]int64{rising(1, 400)}},
		"the last of 4000 is wrong":  {Switches: 400, Clauses: wide},
		"a number 0":                 cnf(3, "0"),
		"a number 0, first":          cnf(3, "0 1"),
		"a number 0, last":           cnf(3, "1 2 0"),
		"both signs":                 cnf(3, "1 -1"),
		"both signs, the other way":  cnf(3, "-1 1"),
		"both signs, last":           cnf(3, "1 2 -3 3"),
		"one twice":                  cnf(3, "2 2"),
		"one twice, off":             cnf(3, "-2 -2"),
		"one above":                  cnf(3, "4"),
		"one above, off":             cnf(3, "-4"),
		"one above, last":            cnf(3, "1 2 -3", "1 2 3 4"),
		"falling":                    cnf(3, "2 1"),
		"falling without signs":      cnf(3, "-2 1"),
		"rising with signs alone":    cnf(3, "-3 -2"),
		"the first falls":            cnf(3, "3 2", "1 2 3"),
		"the last falls":             cnf(3, "1 2 3", "3 2"),
		"the least int64":            {Switches: 3, Clauses: [][]int64{{math.MinInt64}}},
		"the least int64, behind":    {Switches: 3, Clauses: [][]int64{{1, 2, math.MinInt64}}},
		"the greatest int64":         {Switches: 3, Clauses: [][]int64{{math.MaxInt64}}},
		"the greatest int64, behind": {Switches: 3, Clauses: [][]int64{{1, 2, math.MaxInt64}}},
		"the greatest, off":          {Switches: 3, Clauses: [][]int64{{-math.MaxInt64}}},
		"both ends":                  {Switches: 400, Clauses: [][]int64{{math.MinInt64, math.MaxInt64}}},
	} {
		if len(c.Clauses) < 100 && rightCnf(c) {
			t.Errorf("%s: the picture has it right", what)
		}
		wantNoCnf(t, what, c)
	}
}

func TestCnfOkOfThrownNumbers(t *testing.T) {
	d := dice{state: 211}
	told := make(map[bool]int)
	for range 6000 {
		c := thrownCnf(&d, 1+d.below(6), 1+d.below(4), 4)
		clause := &c.Clauses[d.below(len(c.Clauses))]
		switch d.below(5) {
		case 0:
			*clause = append(*clause, int64(d.below(15)-7))
		case 1:
			*clause = append(*clause, farPlaces[d.below(len(farPlaces))])
		case 2:
			slices.Reverse(*clause)
		case 3:
			c.Switches = int64(d.below(9) - 1)
		}
		want := rightCnf(c)
		if impl.CnfOk(c) != want {
			t.Fatalf("%v: told %v", c, !want)
		}
		if !want {
			wantNoCnf(t, fmt.Sprint(c), c)
		}
		told[want]++
	}
	if told[true] < 1000 || told[false] < 1000 {
		t.Errorf("too seldom: %v", told)
	}
}

func TestMeetsByHand(t *testing.T) {
	three := cnf(3, "1 2", "-1 3")
	for _, c := range []struct {
		cnf  impl.Cnf
		rows string // those by which it is met
	}{
		{three, "010 011 101 111"}, {cnf(3, "1 2 3"), "001 010 011 100 101 110 111"}, {cnf(3, "-1 -2 -3"), "000 001 010 011 100 101 110"}, {cnf(3), "000 001 010 011 100 101 110 111"}, {cnf(3, "1", "-2", "3"), "101"}, {cnf(3, "1", "-1"), ""}, {cnf(3, ""), ""}, {cnf(3, "1 2", "", "-3"), ""}, {cnf(3, "-3"), "000 010 100 110"}, {cnf(1, "1"), "1"}, {cnf(1, "-1"), "0"},
	} {
		for _, row := range allRows(int(c.cnf.Switches)) {
			want := slices.Contains(strings.Fields(c.rows), row)
			if impl.Meets(c.cnf, flagsOfRow(row)) != want || metByRow(c.cnf, row) != want {
				t.Errorf("%v by %s: told %v", c.cnf, row, !want)
			}
		}
	}
	for _, row := range texts("", "1", "01", "0101", "0100", "11111111") {
		if impl.Meets(three, flagsOfRow(row)) || impl.Meets(cnf(3), flagsOfRow(row)) {
			t.Errorf("met by the flags %q", row)
		}
	}
	if !impl.Meets(cnf(0), nil) || !impl.Meets(cnf(0), []bool{}) || impl.Meets(cnf(0), []bool{false}) || impl.Meets(cnf(0, ""), nil) {
		t.Error("no switches")
	}
	wide := impl.Cnf{Switches: 400, Clauses: slices.Repeat([][]int64{rising(1, 400)}, 4000)}
	on := make([]bool, 400)
	if impl.Meets(wide, on) {
		t.Error("met with all off")
	}
	on[399] = true
	if !impl.Meets(wide, on) || impl.Meets(wide, on[:399]) || impl.Meets(wide, append(on, true)) {
		t.Error("the last one on")
	}
}

func TestUnitByHand(t *testing.T) {
	for _, c := range []struct {
		cnf  impl.Cnf
		set  string
		want string
	}{
		// nothing follows
		{cnf(0), "", "true"}, {cnf(3), "", "true"}, {cnf(3), "2 -1", "2 -1 true"}, {cnf(3, "1 2", "-1 3"), "", "true"}, {cnf(3, "1 2 3"), "-2", "-2 true"}, {cnf(400), "400 -1", "400 -1 true"},
		// one follows from the other
		{cnf(3, "1 2", "-1 3"), "1", "1 3 true"}, {cnf(3, "1 2", "-1 3"), "-1", "-1 2 true"}, {cnf(3, "1 2", "-1 3"), "-3", "-3 -1 2 true"}, {cnf(3, "1 2 3"), "-3 -1", "-3 -1 2 true"}, {cnf(3, "2"), "", "2 true"}, {cnf(3, "2"), "3 1", "3 1 2 true"}, {cnf(4, "3 4", "-2 -3", "-1 2", "1"), "", "1 2 -3 4 true"}, {cnf(4, "1", "-1 2", "-2 -3", "3 4"), "", "1 2 -3 4 true"},
		// a clause that has a number which stands already
		{cnf(3, "1 2"), "1", "1 true"}, {cnf(3, "1 2"), "2 -1", "2 -1 true"}, {cnf(3, "1", "1 2", "-2 3"), "1", "1 true"}, {cnf(3, "-1 2", "-1 2", "-1 2"), "1", "1 2 true"}, {cnf(3, "1", "1", "1"), "", "1 true"}, {cnf(3, "1 2 3", "-2"), "1", "1 -2 true"},
		// several from which something follows at once: the first
		{cnf(3, "3", "1", "-2"), "", "3 1 -2 true"}, {cnf(4, "-1 4", "-1 3", "-1 2"), "1", "1 4 3 2 true"}, {cnf(4, "-1 4", "3 -4", "-1 2"), "1", "1 4 3 2 true"}, {cnf(4, "-3 4", "-1 3", "-1 2"), "1", "1 3 4 2 true"}, {cnf(5, "-3 4", "-4 5", "-1 2", "-1 3"), "1", "1 2 3 4 5 true"}, {cnf(5, "-4 -5", "-3 5", "-2 3", "1 2"), "-1", "-1 2 3 5 -4 true"},
		// a clause of which nothing can stand is met when it is the first, however soon it came to that
		{cnf(3, "1 2", "-1 3", "-2 3", "-3"), "", "-3 -1 2 false"}, {cnf(3, "1 2"), "-1 -2", "-1 -2 false"}, {cnf(3, "1 2", "3"), "-1 -2", "-1 -2 false"}, {cnf(3, "3", "1 2"), "-1 -2", "-1 -2 3 false"}, {cnf(3, "", "3"), "", "false"}, {cnf(3, "3", ""), "", "3 false"}, {cnf(3, "3", "2 -3", ""), "", "3 2 false"}, {cnf(3, ""), "2", "2 false"}, {cnf(0, ""), "", "false"}, {cnf(1, "1", "-1"), "", "1 false"}, {cnf(1, "-1", "1"), "", "-1 false"}, {cnf(1, "1", "-1"), "1", "1 false"}, {cnf(4, "3 4", "1", "2", "-1 -2"), "-3 -4", "-3 -4 false"}, {cnf(4, "-1 2", "-1 3", "-1 -2 -3", "-1 4"), "1", "1 2 3 false"}, {cnf(4, "-1 2", "-1 3", "-1 4", "-1 -2 -3"), "1", "1 2 3 4 false"}, {cnf(4, "-1 2", "-1 -2", "-1 3"), "1", "1 2 false"}, {cnf(4, "-1 3", "-1 2", "-1 -2"), "1", "1 3 2 false"}, {cnf(4, "-2 4", "-1 2", "-2 -4", "-1 3"), "1", "1 2 4 false"},
		// what is met is no hindrance, whatever else stands
		{cnf(3, "1 2 3"), "-1 3 -2", "-1 3 -2 true"}, {cnf(4, "1 2", "-2 3", "-3 4"), "-4", "-4 -3 -2 1 true"},
	} {
		got, ok := checkUnit(t, c.cnf, numbers(c.set))
		text := strings.TrimSpace(strings.Trim(fmt.Sprint(got), "[]") + " " + fmt.Sprint(ok))
		if text != c.want {
			t.Errorf("%v by %s: %s, want %s", c.cnf, c.set, text, c.want)
		}
	}
}

func TestUnitRefuses(t *testing.T) {
	c := cnf(3, "1 2", "-1 3", "")
	for _, set := range [][]int64{{0}, {1, 0}, {0, 1}, {1, 1}, {-2, -2}, {1, -1}, {-1, 1}, {1, 2, 3, -1}, {1, 2, 3, 3}, {4}, {-4}, {1, 2, 3, 4}, {math.MinInt64}, {math.MaxInt64}, {-math.MaxInt64}, {1, math.MinInt64}, {math.MaxInt64, 2}, slices.Repeat([]int64{1}, 1000), rising(1, 500), rising(-3, 3)} {
		for _, c := range []impl.Cnf{c, cnf(3), cnf(3, "1")} {
			if got, ok := impl.Unit(c, set); ok || len(got) != 0 {
				t.Errorf("%v by %v: %v, %v", c, set, got, ok)
			}
		}
	}
	for _, set := range [][]int64{{1}, {-1}, {0}} {
		if got, ok := impl.Unit(cnf(0), set); ok || len(got) != 0 {
			t.Errorf("no switches, %v: %v, %v", set, got, ok)
		}
	}
	all := rising(1, 400)
	if got, ok := impl.Unit(cnf(400), all); !ok || !slices.Equal(got, all) {
		t.Errorf("all stand: %d numbers, %v", len(got), ok)
	}
	if got, ok := impl.Unit(cnf(400), append(all, 400)); ok || len(got) != 0 {
		t.Errorf("all, and one more: %d numbers, %v", len(got), ok)
	}
}

// Long ways through as many clauses as there may be, and as wide ones.
func TestUnitOfManyClauses(t *testing.T) {
	forth := impl.Cnf{Switches: 400}
	for n := range int64(399) {
		forth.Clauses = append(forth.Clauses, []int64{-(n + 1), n + 2})
	}
	back := impl.Cnf{Switches: 400, Clauses: slices.Clone(forth.Clauses)}
	slices.Reverse(back.Clauses)
	for _, c := range []impl.Cnf{forth, back} {
		if got, ok := impl.Unit(c, []int64{1}); !ok || !slices.Equal(got, rising(1, 400)) {
			t.Errorf("%v, %v", got, ok)
		}
		if got, ok := impl.Unit(c, []int64{-400}); !ok || len(got) != 400 || got[399] != -1 {
			t.Errorf("%v, %v", got, ok)
		}
		if got, ok := impl.Unit(c, []int64{200}); !ok || !slices.Equal(got, rising(200, 400)) {
			t.Errorf("%v, %v", got, ok)
		}
	}
	// each clause is one number wider than the one behind it: the last one begins, and the first one ends
	stairs := impl.Cnf{Switches: 400}
	for n := int64(400); n > 0; n-- {
		clause := rising(1, n)
		for i := range clause[:n-1] {
			clause[i] = -clause[i]
		}
		stairs.Clauses = append(stairs.Clauses, clause)
	}
	if got, ok := impl.Unit(stairs, nil); !ok || !slices.Equal(got, rising(1, 400)) {
		t.Errorf("%v, %v", got, ok)
	}
	stairs.Clauses = append(slices.Repeat([][]int64{rising(1, 400)}, 3599), append(stairs.Clauses, []int64{-400})...)
	if got, ok := impl.Unit(stairs, nil); ok || !slices.Equal(got, rising(1, 400)) {
		t.Errorf("%v, %v", got, ok)
	}
	if got := settleText(impl.Settle(stairs, 1)); got != "no 1" || len(stairs.Clauses) != 4000 {
		t.Errorf("%s with %d clauses", got, len(stairs.Clauses))
	}
}

func TestUnitOfThrownClauses(t *testing.T) {
	d := dice{state: 212}
	told := make(map[string]int)
	for range 6000 {
		switches := 1 + d.below(10)
		if d.below(20) == 0 {
			switches = 60
		}
		c := thrownCnf(&d, switches, d.below(4*switches), 1+d.below(5))
		set := thrownSet(&d, switches, d.below(4))
		got, ok := checkUnit(t, c, set)
		told[fmt.Sprint(ok, " ", min(4, len(got)-len(set)))]++
		// what stands in the end stands again
		if again, same := checkUnit(t, c, got); same != ok || ok && !slices.Equal(again, got) {
			t.Fatalf("%v by %v: %v, then %v", c, set, got, again)
		}
	}
	for _, ok := range []bool{true, false} {
		for more := range 5 {
			if key := fmt.Sprint(ok, " ", more); told[key] < 50 {
				t.Errorf("%s is too seldom: %v", key, told)
			}
		}
	}
}

func TestSettleByHand(t *testing.T) {
	for _, c := range []struct {
		cnf  impl.Cnf
		want string
	}{
		{cnf(0), "yes 1"}, {cnf(0, ""), "no 1"}, {cnf(1), "yes 2 0"}, {cnf(3), "yes 4 000"}, {cnf(3, ""), "no 1"},
		// what follows needs no visit of its own
		{cnf(1, "1"), "yes 1 1"}, {cnf(1, "-1"), "yes 1 0"}, {cnf(1, "1", "-1"), "no 1"}, {cnf(3, "1", "-1 2", "-2 3"), "yes 1 111"}, {cnf(3, "1 2", "-1 3", "-2 3", "-3"), "no 1"}, {cnf(3, "1 2", "-1 3"), "yes 3 010"},
		// the least switch that does not stand, off ahead of on
		{cnf(3, "1"), "yes 3 100"}, {cnf(3, "2"), "yes 3 010"}, {cnf(3, "1 2 3"), "yes 3 001"}, {cnf(3, "-1 -2 -3"), "yes 4 000"}, {cnf(2, "1 2", "1 -2"), "yes 4 10"}, {cnf(2, "1 2", "1 -2", "-1 2"), "yes 3 11"}, {cnf(2, "1 2", "1 -2", "-1 2", "-1 -2"), "no 3"}, {cnf(3, "2 3", "2 -3", "-2 3", "-2 -3"), "no 7"}, {cnf(3, "1 2 3", "1 2 -3", "1 -2 3", "1 -2 -3"), "yes 7 100"},
		// it comes back over switches that were on already
		{cnf(4, "1 3 4", "1 3 -4", "1 -3 4", "1 -3 -4"), "yes 12 1000"},
	} {
		if got := checkSettle(t, c.cnf, manyVisits); got != c.want {
			t.Errorf("%v: %s, want %s", c.cnf, got, c.want)
		}
	}
}

func TestSettleAtItsVisitsEnd(t *testing.T) {
	all := impl.Cnf{Switches: 400}
	wide := impl.Cnf{Switches: 400, Clauses: slices.Repeat([][]int64{rising(1, 400)}, 4000)}
	for _, c := range []struct {
		cnf    impl.Cnf
		visits int64
		want   string
	}{
		{cnf(0), 1, "yes 1"}, {cnf(0, ""), 1, "no 1"}, {cnf(1, "1"), 1, "yes 1 1"}, {cnf(3, "1 2", "-1 3"), 3, "yes 3 010"}, {cnf(2, "1 2", "1 -2"), 4, "yes 4 10"}, {cnf(3, "2 3", "2 -3", "-2 3", "-2 -3"), 7, "no 7"}, {all, 401, "yes 401 " + strings.Repeat("0", 400)}, {wide, 400, "yes 400 " + strings.Repeat("0", 399) + "1"},
	} {
		for _, most := range []int64{c.visits, c.visits + 1, 19999, manyVisits} {
			if got := settleText(impl.Settle(c.cnf, most)); got != c.want {
				t.Errorf("%s with %d: %s, want %s", short(fmt.Sprint(c.cnf)), most, short(got), short(c.want))
			}
		}
		for most := max(0, c.visits-9); most < c.visits; most++ {
			if got := settleText(impl.Settle(c.cnf, most)); got != fmt.Sprint("many ", most) {
				t.Errorf("%s with %d: %s", short(fmt.Sprint(c.cnf)), most, short(got))
			}
		}
		if got := settleText(impl.Settle(c.cnf, 0)); got != "many 0" {
			t.Errorf("%s with 0: %s", short(fmt.Sprint(c.cnf)), got)
		}
		for _, most := range []int64{-1, 20001, math.MinInt64, math.MaxInt64} {
			if got := settleText(impl.Settle(c.cnf, most)); got != "bad -1" {
				t.Errorf("%s with %d: %s", short(fmt.Sprint(c.cnf)), most, got)
			}
		}
	}
}

// With fewer visits than are needed there are too many; with more nothing changes.
func TestSettleByAllMosts(t *testing.T) {
	d := dice{state: 213}
	told := make(map[string]int)
	for range 300 {
		switches := 4 + d.below(6)
		c := thrownCnf(&d, switches, switches*(1+d.below(3)), 3)
		if d.below(2) == 0 {
			c = evenCnf(&d, switches, switches*(3+d.below(5)), 3)
		}
		full := checkSettle(t, c, manyVisits)
		_, visits, code := impl.Settle(c, manyVisits)
		for most := range visits {
			if got := checkSettle(t, c, most); got != fmt.Sprint("many ", most) {
				t.Fatalf("%v with %d: %s, and %s", c, most, got, full)
			}
		}
		for more := range int64(3) {
			if got := settleText(impl.Settle(c, visits+more)); got != full {
				t.Fatalf("%v with %d: %s, and %s", c, visits+more, got, full)
			}
		}
		told[fmt.Sprint(settleNames[code], visits > 5)]++
	}
	for _, key := range []string{"yestrue", "notrue", "yesfalse", "nofalse"} {
		if told[key] < 20 {
			t.Errorf("%s is too seldom: %v", key, told)
		}
	}
}

func TestSettleOfThrownClauses(t *testing.T) {
	d := dice{state: 214}
	told := make(map[string]int)
	for range 1500 {
		switches := 1 + d.below(14)
		c := thrownCnf(&d, switches, d.below(5*switches), 1+d.below(4))
		got := checkSettle(t, c, int64(d.below(2)*d.below(60)+d.below(9)))
		code, _, _ := strings.Cut(got, " ")
		told[code]++
	}
	for range 40 {
		checkSettle(t, evenCnf(&d, 24, 90+d.below(30), 3), 300)
		checkSettle(t, evenCnf(&d, 16, 150+d.below(60), 4), 300)
	}
	for _, key := range []string{"yes", "no", "many"} {
		if told[key] < 150 {
			t.Errorf("%s is too seldom: %v", key, told)
		}
	}
}

// One that is too many for their holes: each way has to be tried, again and again.
func TestSettleOfPigeons(t *testing.T) {
	for count := 1; count < 6; count++ {
		if got := checkSettle(t, pigeons(count+1, count), manyVisits); !strings.HasPrefix(got, "no ") {
			t.Errorf("%d in %d: %s", count+1, count, got)
		}
		if got := checkSettle(t, pigeons(count, count), manyVisits); !strings.HasPrefix(got, "yes ") {
			t.Errorf("%d in %d: %s", count, count, got)
		}
	}
	if got := settleText(impl.Settle(pigeons(11, 10), manyVisits)); got != "many 20000" {
		t.Errorf("11 in 10: %s", got)
	}
}

// The promise: flags that are told meet all clauses; where none are told there
// are none; what follows holds by all flags that meet the clauses and what stood.
func TestClausesByAllFlags(t *testing.T) {
	d := dice{state: 215}
	told := make(map[string]int)
	for range 1200 {
		switches := 1 + d.below(10)
		c := thrownCnf(&d, switches, d.below(4*switches), 1+d.below(4))
		set := thrownSet(&d, switches, d.below(4))
		got, ok := impl.Unit(c, set)
		count := 0
		for _, row := range allRows(switches) {
			is := metByRow(c, row)
			if impl.Meets(c, flagsOfRow(row)) != is {
				t.Fatalf("%v by %s: told %v", c, row, !is)
			}
			if !is {
				continue
			}
			count++
			so := func(list []int64) bool {
				return !slices.ContainsFunc(list, func(n int64) bool { return !hasOfRow([]int64{n}, row) })
			}
			if so(set) && (!ok || !so(got)) {
				t.Fatalf("%v by %v: %v, %v, and it is met by %s", c, set, got, ok, row)
			}
		}
		on, visits, code := impl.Settle(c, manyVisits)
		told[settleNames[code]]++
		if count > 0 && (code != impl.StYes || !metByRow(c, rowOfFlags(on)) || !impl.Meets(c, on)) || count == 0 && (code != impl.StNo || len(on) != 0) {
			t.Fatalf("%v: %s, and %d meet it", c, settleText(on, visits, code), count)
		}
	}
	if told["yes"] < 200 || told["no"] < 200 {
		t.Errorf("too seldom: %v", told)
	}
}

func TestClausesKeep(t *testing.T) {
	d := dice{state: 216}
	for range 300 {
		switches := 1 + d.below(8)
		c := thrownCnf(&d, switches, d.below(4*switches), 1+d.below(4))
		keeps(t, impl.CnfOk, c)
		keeps(t, impl.Meets, c, flagsOfRow(d.row(switches)))
		keeps(t, impl.Unit, c, thrownSet(&d, switches, d.below(9)))
		keeps(t, impl.Unit, c, []int64(nil))
		keeps(t, impl.Settle, c, int64(d.below(40)))
	}
	wrong := cnf(3, "1 2", "2 1")
	keeps(t, impl.CnfOk, wrong)
	keeps(t, impl.Meets, wrong, flagsOfRow("010"))
	keeps(t, impl.Unit, wrong, numbers("1 -3"))
	keeps(t, impl.Unit, cnf(3, "1 2"), numbers("1 -3 3"))
	keeps(t, impl.Settle, wrong, int64(5))
}
