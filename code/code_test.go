package code

import (
	"math"
	"math/rand"
	"reflect"
	"slices"
	"strings"
	"testing"

	"magpie/api"
)

// span is from which number to which an operand may go; the tests write out the document's numbers, not the package's.
type span struct{ from, to int }

var (
	noOperand  = span{0, 0}
	aRegister  = span{0, 7}
	aHand      = span{0, 3}
	aFuture    = span{0, 15}
	aFunction  = span{0, 11}
	aPlace     = span{0, 39}
	anyNumber  = span{-1 << 31, 1<<31 - 1}
	threeWords = [3]span{aRegister, aRegister, aRegister}
)

// spans are what the document gives each instruction, by its Op.
var spans = map[int][3]span{
	1: {aRegister, anyNumber, noOperand},
	2: threeWords, 3: threeWords, 4: threeWords, 5: threeWords, 6: threeWords,
	7:  {aPlace, noOperand, noOperand},
	8:  {aRegister, aPlace, noOperand},
	9:  {aHand, aFunction, aRegister},
	10: {aRegister, aHand, noOperand},
	11: {aFuture, aRegister, noOperand},
	12: {aRegister, aFuture, noOperand},
	13: {aHand, noOperand, noOperand},
	14: {noOperand, noOperand, noOperand},
	15: {aRegister, noOperand, noOperand},
}

func ins(op int, v [3]int) api.Ins { return api.Ins{Op: op, A: v[0], B: v[1], C: v[2]} }

func lastOf(op int) [3]int {
	s := spans[op]
	return [3]int{s[0].to, s[1].to, s[2].to}
}

// repeated is a list of n instructions that may be.
func repeated(n int) []api.Ins { return slices.Repeat([]api.Ins{{Op: api.Yield}}, n) }

// one is a program of one function, right but for what the function is.
func one(l ...api.Ins) api.Prog { return api.Prog{Fuel: 1, Funcs: [][]api.Ins{l}} }

// alike takes nil and an empty list for one.
func alike(a, b api.Prog) bool {
	return a.Futs == b.Futs && a.Depth == b.Depth && a.Fuel == b.Fuel && slices.EqualFunc(a.Funcs, b.Funcs, slices.Equal[[]api.Ins])
}

func isZero(p api.Prog) bool { return alike(p, api.Prog{}) }

func copied(p api.Prog) api.Prog {
	l := make([][]api.Ins, len(p.Funcs))
	for k, f := range p.Funcs {
		l[k] = slices.Clone(f)
	}
	p.Funcs = l
	return p
}

// bytesOf writes a right program as the document says, without the package's help.
func bytesOf(p api.Prog) string {
	l := []byte{'M', 'G', 'P', byte(p.Futs), byte(p.Depth), byte(p.Fuel / 256), byte(p.Fuel % 256), byte(len(p.Funcs))}
	for _, f := range p.Funcs {
		l = append(l, byte(len(f)))
		for _, i := range f {
			l = append(l, byte(i.Op), byte(i.A))
			if i.Op == 1 {
				u := uint32(i.B)
				l = append(l, byte(u>>24), byte(u>>16), byte(u>>8), byte(u))
			} else {
				l = append(l, byte(i.B), byte(i.C))
			}
		}
	}
	return string(l)
}

// mayBe tells whether bytes are a program's, from the front on, byte by byte, and does not ask Put.
func mayBe(s string) bool {
	if !strings.HasPrefix(s, "MGP") || len(s) < 8 {
		return false
	}
	fuel := int(s[5])*256 + int(s[6])
	if s[3] > 16 || s[4] > 5 || fuel < 1 || fuel > 500 || s[7] > 12 {
		return false
	}
	rest := s[8:]
	for range s[7] {
		if rest == "" || rest[0] > 40 {
			return false
		}
		n := rest[0]
		rest = rest[1:]
		for range n {
			size := instructionSize(rest)
			if size == 0 {
				return false
			}
			rest = rest[size:]
		}
	}
	return rest == ""
}

// instructionSize is how many bytes the instruction at the front has; 0: there is none.
func instructionSize(s string) int {
	if s == "" {
		return 0
	}
	row, ok := spans[int(s[0])]
	size := 4
	if s[0] == 1 {
		size = 6
	}
	if !ok || len(s) < size || int(s[1]) > row[0].to {
		return 0
	}
	if s[0] != 1 && (int(s[2]) > row[1].to || int(s[3]) > row[2].to) {
		return 0
	}
	return size
}

// someProgram is a right program, the edges of each range more often than what lies between.
func someProgram(r *rand.Rand) api.Prog {
	pick := func(s span) int {
		switch r.Intn(4) {
		case 0:
			return s.from
		case 1:
			return s.to
		}
		return s.from + r.Intn(s.to-s.from+1)
	}
	p := api.Prog{Futs: pick(span{0, 16}), Depth: pick(span{0, 5}), Fuel: pick(span{1, 500})}
	for range pick(span{0, 12}) {
		var f []api.Ins
		for range pick(span{0, 40}) {
			op := 1 + r.Intn(15)
			row := spans[op]
			f = append(f, ins(op, [3]int{pick(row[0]), pick(row[1]), pick(row[2])}))
		}
		p.Funcs = append(p.Funcs, f)
	}
	return p
}

// rows are programs with their bytes, written out by hand.
func rows() []struct {
	p api.Prog
	s string
} {
	all := api.Prog{Futs: 16, Depth: 5, Fuel: 500, Funcs: [][]api.Ins{{
		{Op: api.Const, A: 7, B: 0x01020304}, {Op: api.Add, A: 1, B: 2, C: 3}, {Op: api.Sub, A: 4, B: 5, C: 6}, {Op: api.Mul, A: 7}, {Op: api.Div, B: 7}, {Op: api.Less, C: 7},
		{Op: api.Jump, A: 39}, {Op: api.Zero, A: 7, B: 39}, {Op: api.Fork, A: 3, B: 11, C: 7}, {Op: api.Join, A: 7, B: 3}, {Op: api.Set, A: 15, B: 7}, {Op: api.Get, A: 7, B: 15},
		{Op: api.Cancel, A: 3}, {Op: api.Yield}, {Op: api.Ret, A: 7},
	}}}
	return []struct {
		p api.Prog
		s string
	}{
		{api.Prog{Fuel: 1}, "MGP\x00\x00\x00\x01\x00"},
		{api.Prog{Futs: 16, Depth: 5, Fuel: 500}, "MGP\x10\x05\x01\xf4\x00"},
		{api.Prog{Fuel: 256, Funcs: make([][]api.Ins, 12)}, "MGP\x00\x00\x01\x00\x0c" + strings.Repeat("\x00", 12)},
		{one(api.Ins{Op: api.Const, B: 5}, api.Ins{Op: api.Ret}), "MGP\x00\x00\x00\x01\x01\x02\x01\x00\x00\x00\x00\x05\x0f\x00\x00\x00"},
		{one(api.Ins{Op: api.Const, A: 7, B: -1 << 31}), "MGP\x00\x00\x00\x01\x01\x01\x01\x07\x80\x00\x00\x00"},
		{one(api.Ins{Op: api.Const, A: 7, B: 1<<31 - 1}), "MGP\x00\x00\x00\x01\x01\x01\x01\x07\x7f\xff\xff\xff"},
		{one(api.Ins{Op: api.Const, B: -1}), "MGP\x00\x00\x00\x01\x01\x01\x01\x00\xff\xff\xff\xff"},
		{api.Prog{Futs: 2, Depth: 1, Fuel: 300, Funcs: [][]api.Ins{{{Op: api.Yield}}, nil, {{Op: api.Set, A: 1, B: 2}}}}, "MGP\x02\x01\x01\x2c\x03\x01\x0e\x00\x00\x00\x00\x01\x0b\x01\x02\x00"},
		{one(repeated(40)...), "MGP\x00\x00\x00\x01\x01\x28" + strings.Repeat("\x0e\x00\x00\x00", 40)},
		{all, "MGP\x10\x05\x01\xf4\x01\x0f\x01\x07\x01\x02\x03\x04\x02\x01\x02\x03\x03\x04\x05\x06\x04\x07\x00\x00\x05\x00\x07\x00\x06\x00\x00\x07\x07\x27\x00\x00\x08\x07\x27\x00\x09\x03\x0b\x07\x0a\x07\x03\x00\x0b\x0f\x07\x00\x0c\x07\x0f\x00\x0d\x03\x00\x00\x0e\x00\x00\x00\x0f\x07\x00\x00"},
	}
}

// P2.1: Shape.

func TestShapeAtEachOperandsEnds(t *testing.T) {
	for op, row := range spans {
		for k, s := range row {
			for v, want := range map[int]bool{s.from: true, s.to: true, s.from - 1: false, s.to + 1: false, math.MaxInt: false, math.MinInt: false, s.from - 1<<32: false, s.to + 1<<32: false, s.to + 256: false} {
				for _, others := range [][3]int{{}, lastOf(op)} {
					others[k] = v
					if got := Shape(ins(op, others)); got != want {
						t.Errorf("Shape(%v) = %t, want %t", ins(op, others), got, want)
					}
				}
			}
		}
	}
}

func TestShapeOfEachSmallInstruction(t *testing.T) {
	inside := func(v int, s span) bool { return s.from <= v && v <= s.to }
	for op := -1; op <= 17; op++ {
		row, known := spans[op]
		for a := -1; a <= 41; a++ {
			for b := -1; b <= 41; b++ {
				for c := -1; c <= 9; c++ {
					want := known && inside(a, row[0]) && inside(b, row[1]) && inside(c, row[2])
					if got := Shape(api.Ins{Op: op, A: a, B: b, C: c}); got != want {
						t.Fatalf("Shape(%d %d %d %d) = %t, want %t", op, a, b, c, got, want)
					}
				}
			}
		}
	}
}

func TestShapeOfWrongOps(t *testing.T) {
	for _, op := range []int{0, -1, 16, 17, 255, 256, 257, 1<<32 + 1, math.MaxInt, math.MinInt} {
		if Shape(api.Ins{Op: op}) {
			t.Errorf("Shape with Op %d holds", op)
		}
	}
}

// P2.1: Put.

func TestPutRows(t *testing.T) {
	for i, x := range rows() {
		if s, e := Put(x.p); s != x.s || e != api.OK {
			t.Errorf("%d: Put = %x, %d, want %x", i, s, e, x.s)
		}
	}
}

func TestPutErrors(t *testing.T) {
	wrong := api.Ins{}
	for i, x := range []struct {
		p api.Prog
		e api.Errno
	}{
		{api.Prog{}, api.ErrArg},
		{api.Prog{Fuel: -1}, api.ErrArg},
		{api.Prog{Fuel: 1}, api.OK},
		{api.Prog{Fuel: 500}, api.OK},
		{api.Prog{Fuel: 501}, api.ErrArg},
		{api.Prog{Fuel: 1<<16 + 1}, api.ErrArg},
		{api.Prog{Fuel: math.MinInt}, api.ErrArg},
		{api.Prog{Fuel: 1, Futs: -1}, api.ErrArg},
		{api.Prog{Fuel: 1, Futs: 16}, api.OK},
		{api.Prog{Fuel: 1, Futs: 17}, api.ErrArg},
		{api.Prog{Fuel: 1, Futs: 256}, api.ErrArg},
		{api.Prog{Fuel: 1, Depth: -1}, api.ErrArg},
		{api.Prog{Fuel: 1, Depth: 5}, api.OK},
		{api.Prog{Fuel: 1, Depth: 6}, api.ErrArg},
		{api.Prog{Fuel: 1, Depth: 256}, api.ErrArg},
		{api.Prog{Fuel: 1, Funcs: make([][]api.Ins, 12)}, api.OK},
		{api.Prog{Fuel: 1, Funcs: make([][]api.Ins, 13)}, api.ErrBig},
		{api.Prog{Fuel: 1, Funcs: make([][]api.Ins, 256)}, api.ErrBig},
		{one(repeated(40)...), api.OK},
		{one(repeated(41)...), api.ErrBig},
		{one(repeated(256)...), api.ErrBig},
		{one(wrong), api.ErrArg},
		{one(append(repeated(39), wrong)...), api.ErrArg},
		{api.Prog{Fuel: 1, Funcs: [][]api.Ins{repeated(1), nil, {wrong}}}, api.ErrArg},
	} {
		if s, e := Put(x.p); e != x.e || (s == "") != (e != api.OK) {
			t.Errorf("%d: Put = %x, %d, want error %d", i, s, e, x.e)
		}
	}
}

func TestPutTellsErrBigFirst(t *testing.T) {
	wrong := api.Ins{Op: api.Ret, A: 8}
	for i, p := range []api.Prog{
		{Funcs: make([][]api.Ins, 13)},
		{Fuel: 501, Funcs: [][]api.Ins{repeated(41)}},
		{Fuel: 1, Futs: 17, Funcs: [][]api.Ins{repeated(41)}},
		{Fuel: 1, Depth: -1, Funcs: [][]api.Ins{nil, repeated(41)}},
		{Fuel: 1, Funcs: [][]api.Ins{{wrong}, repeated(41)}},
		one(append([]api.Ins{wrong}, repeated(40)...)...),
		{Fuel: 1, Funcs: append([][]api.Ins{{wrong}}, make([][]api.Ins, 12)...)},
	} {
		if s, e := Put(p); s != "" || e != api.ErrBig {
			t.Errorf("%d: Put = %x, %d, want ErrBig", i, s, e)
		}
	}
}

func TestPutRefusesWhatHasNoShape(t *testing.T) {
	for op, row := range spans {
		for k, s := range row {
			for v, want := range map[int]api.Errno{s.from: api.OK, s.to: api.OK, s.from - 1: api.ErrArg, s.to + 1: api.ErrArg} {
				last := lastOf(op)
				last[k] = v
				p := one(ins(op, last))
				b, e := Put(p)
				if e != want || e == api.OK && b != bytesOf(p) || e != api.OK && b != "" {
					t.Errorf("Put of %v = %x, %d, want error %d", ins(op, last), b, e, want)
				}
			}
		}
	}
}

// P2.2: Get.

func TestGetRows(t *testing.T) {
	for i, x := range rows() {
		if p, e := Get(x.s); e != api.OK || !alike(p, x.p) {
			t.Errorf("%d: Get = %v, %d, want %v", i, p, e, x.p)
		}
	}
}

func refused(t *testing.T, s string) {
	t.Helper()
	if p, e := Get(s); e != api.ErrBytes || !isZero(p) {
		t.Errorf("Get(%x) = %v, %d, want nothing and ErrBytes", s, p, e)
	}
}

func TestGetOfBytesCutShortOrLong(t *testing.T) {
	for _, x := range rows() {
		for n := range len(x.s) {
			refused(t, x.s[:n])
		}
		for more := range 256 {
			refused(t, x.s+string([]byte{byte(more)}))
		}
		refused(t, "\x00"+x.s)
		refused(t, x.s[1:])
		refused(t, x.s+x.s)
	}
}

func TestGetOfOneByteTurned(t *testing.T) {
	for _, x := range rows() {
		for at := range len(x.s) {
			for v := range 256 {
				b := []byte(x.s)
				if b[at] == byte(v) {
					continue
				}
				b[at] = byte(v)
				s := string(b)
				if !mayBe(s) {
					refused(t, s)
					continue
				}
				if p, e := Get(s); e != api.OK || bytesOf(p) != s || alike(p, x.p) {
					t.Errorf("Get(%x) = %v, %d, want what these bytes say", s, p, e)
				}
			}
		}
	}
}

func TestGetOfWrongBytes(t *testing.T) {
	for _, s := range []string{
		"", "M", "MGP", "mgp\x00\x00\x00\x01\x00", "MGX\x00\x00\x00\x01\x00",
		"MGP\x11\x00\x00\x01\x00", "MGP\xff\x00\x00\x01\x00", "MGP\x00\x06\x00\x01\x00", "MGP\x00\x00\x00\x00\x00", "MGP\x00\x00\x01\xf5\x00", "MGP\x00\x00\xff\xff\x00",
		"MGP\x00\x00\x00\x01\x0d" + strings.Repeat("\x00", 13),
		"MGP\x00\x00\x00\x01\xff" + strings.Repeat("\x00", 255),
		"MGP\x00\x00\x00\x01\x01\x29" + strings.Repeat("\x0e\x00\x00\x00", 41),
		"MGP\x00\x00\x00\x01\x01\xff" + strings.Repeat("\x0e\x00\x00\x00", 255),
		"MGP\x00\x00\x00\x01\x01\x01\x00\x00\x00\x00",
		"MGP\x00\x00\x00\x01\x01\x01\x10\x00\x00\x00",
		"MGP\x00\x00\x00\x01\x01\x01\x01\x08\x00\x00\x00\x00",
		"MGP\x00\x00\x00\x01\x01\x01\x01\x00\x00\x00",
		"MGP\x00\x00\x00\x01\x01\x01\x0e\x00\x00\x01",
		"MGP\x00\x00\x00\x01\x01\x01\x0f\x00\x00\x00\x00\x00",
		strings.Repeat("\x00", 4000), strings.Repeat("\xff", 70000),
	} {
		refused(t, s)
	}
}

// P2.3: what is put is got, and the other way round.

func TestPutIsGot(t *testing.T) {
	r := rand.New(rand.NewSource(2))
	for range 2000 {
		p := someProgram(r)
		s, e := Put(p)
		if e != api.OK || s != bytesOf(p) {
			t.Fatalf("Put(%v) = %x, %d, want %x", p, s, e, bytesOf(p))
		}
		if got, e := Get(s); e != api.OK || !alike(got, p) {
			t.Fatalf("Get(Put(%v)) = %v, %d", p, got, e)
		}
	}
}

func TestGotIsPut(t *testing.T) {
	r := rand.New(rand.NewSource(3))
	for range 20000 {
		b := []byte(bytesOf(someProgram(r)))
		for range 1 + r.Intn(3) {
			b[r.Intn(len(b))] = byte(r.Intn(20))
		}
		gotIsPut(t, string(b))
	}
}

// gotIsPut holds Get against the document for any bytes: refused if they are none, else put back to the letter.
func gotIsPut(t *testing.T, s string) {
	t.Helper()
	if !mayBe(s) {
		refused(t, s)
		return
	}
	p, e := Get(s)
	if e != api.OK {
		t.Fatalf("Get(%x) = %d, want OK", s, e)
	}
	if back, e := Put(p); e != api.OK || back != s {
		t.Fatalf("Put(Get(%x)) = %x, %d", s, back, e)
	}
}

func FuzzGet(f *testing.F) {
	for _, x := range rows() {
		f.Add(x.s)
	}
	f.Fuzz(gotIsPut)
}

// R3: what is handed in is not turned; what is answered is new memory.

func TestPutTurnsNothing(t *testing.T) {
	for _, x := range rows() {
		before := copied(x.p)
		Put(x.p)
		if !reflect.DeepEqual(copied(x.p), before) {
			t.Errorf("Put turned %v into %v", before, x.p)
		}
	}
}

func TestGetSharesNothing(t *testing.T) {
	for _, x := range rows() {
		p, _ := Get(x.s)
		again, _ := Get(x.s)
		for k := range p.Funcs {
			for i := range p.Funcs[k] {
				p.Funcs[k][i] = api.Ins{Op: -1}
			}
			p.Funcs[k] = append(p.Funcs[k], repeated(100)...)
			for later := k + 1; later < len(p.Funcs); later++ {
				if !slices.Equal(p.Funcs[later], x.p.Funcs[later]) {
					t.Errorf("function %d has memory of function %d", k, later)
				}
			}
		}
		if !alike(again, x.p) {
			t.Errorf("two answers to %x share memory", x.s)
		}
	}
}
