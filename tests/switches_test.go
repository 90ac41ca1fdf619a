package tests

import (
	"fmt"
	"slices"
	"strconv"
	"strings"

	"loop.example/g00081/impl"
)

// numbers reads signed numbers, with blanks between them.
func numbers(text string) []int64 {
	var list []int64
	for _, word := range strings.Fields(text) {
		n, err := strconv.ParseInt(word, 10, 64)
		if err != nil {
			panic(err)
		}
		list = append(list, n)
	}
	return list
}

// cnf has a clause for each text.
func cnf(switches int64, clauses ...string) impl.Cnf {
	c := impl.Cnf{Switches: switches}
	for _, text := range clauses {
		c.Clauses = append(c.Clauses, numbers(text))
	}
	return c
}

func rising(from, to int64) []int64 {
	var list []int64
	for n := from; n <= to; n++ {
		list = append(list, n)
	}
	return list
}

// rightCnf compares numbers by the texts of what is left without the signs, as
// not each int64 has another sign.
func rightCnf(c impl.Cnf) bool {
	if c.Switches < 0 || c.Switches > 400 || len(c.Clauses) > 4000 {
		return false
	}
	for _, clause := range c.Clauses {
		if len(clause) > 400 {
			return false
		}
		last := -1
		for _, n := range clause {
			place := slices.Index(switchNames(c.Switches), strings.TrimPrefix(strconv.FormatInt(n, 10), "-"))
			if place <= last {
				return false
			}
			last = place
		}
	}
	return true
}

func switchNames(switches int64) []string {
	var names []string
	for n := range switches {
		names = append(names, strconv.FormatInt(n+1, 10))
	}
	return names
}

// metByRow is asked of a right one and a row of as many digits as switches.
func metByRow(c impl.Cnf, row string) bool {
	return !slices.ContainsFunc(c.Clauses, func(clause []int64) bool { return !hasOfRow(clause, row) })
}

func hasOfRow(clause []int64, row string) bool {
	return slices.ContainsFunc(clause, func(n int64) bool {
		return n > 0 && row[n-1] == '1' || n < 0 && row[-n-1] == '0'
	})
}

func flagsOfRow(row string) []bool {
	var on []bool
	for _, digit := range row {
		on = append(on, digit == '1')
	}
	return on
}

func rowOfFlags(on []bool) string {
	row := ""
	for _, flag := range on {
		row += map[bool]string{true: "1", false: "0"}[flag]
	}
	return row
}

// followedByWords is asked of what is right: at each step all clauses are gone
// through from the first.
func followedByWords(c impl.Cnf, set []int64) ([]int64, bool) {
	stands := slices.Clone(set)
	for {
		n, found, fails := firstOfEither(c, stands)
		if fails || !found {
			return stands, !fails
		}
		stands = append(stands, n)
	}
}

// firstOfEither tells the number of the first clause from which one follows,
// unless one from which nothing can stand is ahead of it.
func firstOfEither(c impl.Cnf, stands []int64) (n int64, found bool, fails bool) {
	for _, clause := range c.Clauses {
		var open []int64
		so := false
		for _, n := range clause {
			so = so || slices.Contains(stands, n)
			if !slices.Contains(stands, -n) {
				open = append(open, n)
			}
		}
		if !so && len(open) == 0 {
			return 0, false, true
		}
		if !so && len(open) == 1 {
			return open[0], true, false
		}
	}
	return 0, false, false
}

// settling is the test's own picture of a search.
type settling struct {
	cnf    impl.Cnf
	visits int64
	most   int64
}

func (s *settling) visit(stands []int64) (string, int64) {
	if s.visits == s.most {
		return "", impl.StMany
	}
	s.visits++
	stands, ok := followedByWords(s.cnf, stands)
	if !ok {
		return "", impl.StNo
	}
	row := ""
	for n := int64(1); n <= s.cnf.Switches; n++ {
		switch {
		case slices.Contains(stands, n):
			row += "1"
		case slices.Contains(stands, -n):
			row += "0"
		default:
			found, code := s.visit(append(slices.Clone(stands), -n))
			if code == impl.StNo {
				found, code = s.visit(append(slices.Clone(stands), n))
			}
			return found, code
		}
	}
	return row, impl.StYes
}

var settleNames = map[int64]string{impl.StYes: "yes", impl.StNo: "no", impl.StMany: "many", impl.StBad: "bad"}

// settleText writes an answer short: "yes 3 010", "no 1".
func settleText(on []bool, visits int64, code int64) string {
	return strings.TrimSpace(fmt.Sprint(settleNames[code], " ", visits, " ", rowOfFlags(on)))
}

// settledByPicture is asked of what is right.
func settledByPicture(c impl.Cnf, most int64) string {
	s := settling{cnf: c, most: most}
	row, code := s.visit(nil)
	return settleText(flagsOfRow(row), s.visits, code)
}

// thrownCnf is right. An empty clause is seldom.
func thrownCnf(d *dice, switches, clauses, wide int) impl.Cnf {
	c := impl.Cnf{Switches: int64(switches)}
	for range clauses {
		count := min(switches, 1+d.below(wide))
		if d.below(60) == 0 {
			count = 0
		}
		var clause []int64
		for len(clause) < count {
			n := int64(1 + d.below(switches))
			if !slices.Contains(clause, n) {
				clause = append(clause, n)
			}
		}
		slices.Sort(clause)
		for i := range clause {
			clause[i] *= int64(1 - 2*d.below(2))
		}
		c.Clauses = append(c.Clauses, clause)
	}
	return c
}

// evenCnf is right; all its clauses are of one length.
func evenCnf(d *dice, switches, clauses, wide int) impl.Cnf {
	c := impl.Cnf{Switches: int64(switches)}
	for len(c.Clauses) < clauses {
		if some := thrownCnf(d, switches, 1, wide); len(some.Clauses[0]) == wide {
			c.Clauses = append(c.Clauses, some.Clauses[0])
		}
	}
	return c
}

// thrownSet is right.
func thrownSet(d *dice, switches, most int) []int64 {
	var set []int64
	for range min(switches, most) {
		n := int64(1 + d.below(switches))
		if !slices.Contains(set, n) && !slices.Contains(set, -n) {
			set = append(set, n*int64(1-2*d.below(2)))
		}
	}
	return set
}

// pigeons says that each of some sits in one of fewer holes, alone.
func pigeons(count, holes int) impl.Cnf {
	c := impl.Cnf{Switches: int64(count * holes)}
	at := func(pigeon, hole int) int64 { return int64(pigeon*holes + hole + 1) }
	for pigeon := range count {
		c.Clauses = append(c.Clauses, rising(at(pigeon, 0), at(pigeon, holes-1)))
	}
	for hole := range holes {
		for one := range count {
			for other := range one {
				c.Clauses = append(c.Clauses, []int64{-at(other, hole), -at(one, hole)})
			}
		}
	}
	return c
}
