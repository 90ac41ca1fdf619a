package tests

import (
	"encoding/binary"
	"slices"
	"strconv"

	"loop.example/g00081/impl"
)

// The test's own picture of a session's bytes: numbers by encoding/binary,
// whose way of writing them the chapter tells, and bits by rows of 0 and 1.

func numberOnTape(out []byte, n int64) []byte { return binary.AppendUvarint(out, uint64(n)) }

// bitsOnTape is asked of right bits, or of none.
func bitsOnTape(out []byte, b impl.Bits) []byte {
	out = numberOnTape(out, b.Width)
	if b.Width == 0 {
		return out
	}
	row := rowOfBits(b)
	for len(row)%8 != 0 {
		row = "0" + row
	}
	for ; len(row) > 0; row = row[:len(row)-8] {
		one, _ := strconv.ParseUint(row[len(row)-8:], 2, 8)
		out = append(out, byte(one))
	}
	return out
}

func termOnTape(out []byte, x impl.Term) []byte {
	out = numberOnTape(out, int64(len(x.Nodes)))
	for _, n := range x.Nodes {
		out = numberOnTape(numberOnTape(numberOnTape(numberOnTape(out, n.Op), n.Var), n.A), n.B)
		out = bitsOnTape(out, n.Value)
		out = numberOnTape(out, int64(len(n.Kids)))
		for _, kid := range n.Kids {
			out = numberOnTape(out, kid)
		}
	}
	return out
}

func literalOnTape(out []byte, l impl.Literal) []byte {
	out = numberOnTape(out, l.Id)
	if l.Equal {
		out = append(out, 1)
	} else {
		out = append(out, 0)
	}
	return termOnTape(termOnTape(out, l.S), l.T)
}

// tapeOf is asked of right sessions, however long their bytes are.
func tapeOf(s impl.Session) []byte {
	out := numberOnTape([]byte{83, 1}, s.Next)
	out = numberOnTape(out, int64(len(s.Decls)))
	for _, d := range s.Decls {
		out = append(numberOnTape(out, int64(len(d.Name))), d.Name...)
		out = numberOnTape(out, d.Width)
	}
	out = numberOnTape(out, int64(len(s.Scopes)))
	for _, scope := range s.Scopes {
		out = numberOnTape(numberOnTape(out, scope.Decls), int64(len(scope.Literals)))
		for _, l := range scope.Literals {
			out = literalOnTape(out, l)
		}
	}
	return out
}

// tape is what is still to be read; a code is thrown.
type tape struct{ rest []byte }

type thrownCode int64

func (p *tape) bytes(count int64) []byte {
	if int64(len(p.rest)) < count {
		panic(thrownCode(impl.CdShort))
	}
	row := slices.Clone(p.rest[:count])
	p.rest = p.rest[count:]
	return row
}

// number is over at the fifth byte that has another one behind it: what is so
// long is above 1000000000 or not as short as can be, whatever comes.
func (p *tape) number() int64 {
	row := p.bytes(1)
	for lastOf(row) >= 128 {
		if len(row) == 5 {
			panic(thrownCode(impl.CdNumber))
		}
		row = append(row, p.bytes(1)...)
	}
	n, _ := binary.Uvarint(row)
	if n > 1000000000 || !slices.Equal(numberOnTape(nil, int64(n)), row) {
		panic(thrownCode(impl.CdNumber))
	}
	return int64(n)
}

func (p *tape) upTo(most int64) int64 {
	n := p.number()
	if n > most {
		panic(thrownCode(impl.CdCount))
	}
	return n
}

func (p *tape) flag() bool {
	b := p.bytes(1)[0]
	if b > 1 {
		panic(thrownCode(impl.CdFlag))
	}
	return b == 1
}

func (p *tape) bits() impl.Bits {
	b := impl.Bits{Width: p.upTo(4096)}
	for i, one := range p.bytes((b.Width + 7) / 8) {
		if i%8 == 0 {
			b.Words = append(b.Words, 0)
		}
		b.Words[i/8] += uint64(one) << (8 * (i % 8))
	}
	return b
}

func (p *tape) term() impl.Term {
	var x impl.Term
	for range p.upTo(60000) {
		var n impl.TNode
		n.Op = p.number()
		n.Var = p.number()
		n.A = p.number()
		n.B = p.number()
		n.Value = p.bits()
		for range p.upTo(60000) {
			n.Kids = append(n.Kids, p.number())
		}
		x.Nodes = append(x.Nodes, n)
	}
	return x
}

func (p *tape) scope() impl.Scope {
	out := impl.Scope{Decls: p.number()}
	for range p.upTo(60000) {
		var l impl.Literal
		l.Id = p.number()
		l.Equal = p.flag()
		l.S = p.term()
		l.T = p.term()
		out.Literals = append(out.Literals, l)
	}
	return out
}

func (p *tape) session() impl.Session {
	s := impl.Session{Next: p.number()}
	for range p.upTo(60000) {
		var d impl.Decl
		d.Name = string(p.bytes(p.upTo(12)))
		d.Width = p.upTo(4096)
		s.Decls = append(s.Decls, d)
	}
	for range p.upTo(60000) {
		s.Scopes = append(s.Scopes, p.scope())
	}
	return s
}

// loadedByPicture is what LoadSession has to tell of any bytes.
func loadedByPicture(data []byte) (s impl.Session, code int64) {
	switch {
	case len(data) > 60000:
		return s, impl.CdLong
	case len(data) < 2 || data[0] != 83 || data[1] != 1:
		return s, impl.CdStart
	}
	defer func() {
		if met := recover(); met != nil {
			s, code = impl.Session{}, int64(met.(thrownCode))
		}
	}()
	p := tape{rest: data[2:]}
	s = p.session()
	switch {
	case len(p.rest) > 0:
		return impl.Session{}, impl.CdMore
	case !rightSession(s) || !slices.Equal(tapeOf(s), data):
		return impl.Session{}, impl.CdSession
	}
	return s, 0
}
