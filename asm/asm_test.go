package asm

import (
	"reflect"
	"regexp"
	"slices"
	"strconv"
	"strings"
	"testing"

	"magpie/api"
)

// The document's numbers, written out apart from the package's.
const (
	maxText  = 8192
	maxFuncs = 12
	maxCode  = 40
	least    = -2147483648
	most     = 2147483647
)

// head is the first three lines of most texts here: lines 1 to 3.
const head = "futures 3\ndepth 2\nfuel 9\n"

// answer is what a call of Parse gives.
type answer struct {
	p    api.Prog
	line int
	e    api.Errno
}

func ask(s string) answer {
	p, line, e := Parse(s)
	return answer{p, line, e}
}

func good(p api.Prog) answer { return answer{p: p} }

func wrong(line int) answer { return answer{line: line, e: api.ErrText} }

func big() answer { return answer{e: api.ErrBig} }

// of is a program behind head.
func of(funcs ...[]api.Ins) api.Prog {
	return api.Prog{Futs: 3, Depth: 2, Fuel: 9, Funcs: funcs}
}

func same(p, q api.Prog) bool {
	return p.Futs == q.Futs && p.Depth == q.Depth && p.Fuel == q.Fuel && slices.EqualFunc(p.Funcs, q.Funcs, slices.Equal[[]api.Ins])
}

// alike takes nil and an empty list for one.
func alike(a, b answer) bool { return a.line == b.line && a.e == b.e && same(a.p, b.p) }

func check(t *testing.T, s string, want answer) {
	t.Helper()
	if got := ask(s); !alike(got, want) {
		t.Errorf("Parse(%.90q) = %v, want %v", s, got, want)
	}
}

type row struct {
	s    string
	want answer
}

func checkRows(t *testing.T, rows []row) {
	t.Helper()
	for _, r := range rows {
		check(t, r.s, r.want)
	}
}

// kind is an instruction as the document has it: its word, its Op, the last number of each of its operands.
type kind struct {
	word  string
	op    int
	lasts []int
}

// The document's lists, written out apart from the package's and from code's.
func kinds() []kind {
	const register, hand, future, fn, place = 7, 3, 15, 11, 39
	return []kind{
		{"const", 1, []int{register, most}},
		{"add", 2, []int{register, register, register}},
		{"sub", 3, []int{register, register, register}},
		{"mul", 4, []int{register, register, register}},
		{"div", 5, []int{register, register, register}},
		{"less", 6, []int{register, register, register}},
		{"jump", 7, []int{place}},
		{"zero", 8, []int{register, place}},
		{"fork", 9, []int{hand, fn, register}},
		{"join", 10, []int{register, hand}},
		{"set", 11, []int{future, register}},
		{"get", 12, []int{register, future}},
		{"cancel", 13, []int{hand}},
		{"yield", 14, nil},
		{"ret", 15, []int{register}},
	}
}

func low(last int) int {
	if last == most {
		return least
	}
	return 0
}

func ins(op int, v []int) api.Ins {
	i := api.Ins{Op: op}
	for k, f := range []*int{&i.A, &i.B, &i.C} {
		if k < len(v) {
			*f = v[k]
		}
	}
	return i
}

func spell(word string, v []int) string {
	var l []string
	for _, n := range v {
		l = append(l, strconv.Itoa(n))
	}
	if len(l) == 0 {
		return word
	}
	return word + " " + strings.Join(l, ", ")
}

// P4.1, P4.2: each instruction by its word and its operands, in the order A, B, C.
func TestParseTakesEachInstruction(t *testing.T) {
	checkRows(t, []row{
		{head + "function\nconst 3, -2\n", good(of([]api.Ins{{Op: 1, A: 3, B: -2}}))},
		{head + "function\nadd 1, 2, 3\n", good(of([]api.Ins{{Op: 2, A: 1, B: 2, C: 3}}))},
		{head + "function\nsub 2, 3, 4\n", good(of([]api.Ins{{Op: 3, A: 2, B: 3, C: 4}}))},
		{head + "function\nmul 3, 4, 5\n", good(of([]api.Ins{{Op: 4, A: 3, B: 4, C: 5}}))},
		{head + "function\ndiv 4, 5, 6\n", good(of([]api.Ins{{Op: 5, A: 4, B: 5, C: 6}}))},
		{head + "function\nless 5, 6, 7\n", good(of([]api.Ins{{Op: 6, A: 5, B: 6, C: 7}}))},
		{head + "function\njump 38\n", good(of([]api.Ins{{Op: 7, A: 38}}))},
		{head + "function\nzero 6, 37\n", good(of([]api.Ins{{Op: 8, A: 6, B: 37}}))},
		{head + "function\nfork 2, 10, 5\n", good(of([]api.Ins{{Op: 9, A: 2, B: 10, C: 5}}))},
		{head + "function\njoin 4, 1\n", good(of([]api.Ins{{Op: 10, A: 4, B: 1}}))},
		{head + "function\nset 13, 6\n", good(of([]api.Ins{{Op: 11, A: 13, B: 6}}))},
		{head + "function\nget 5, 12\n", good(of([]api.Ins{{Op: 12, A: 5, B: 12}}))},
		{head + "function\ncancel 2\n", good(of([]api.Ins{{Op: 13, A: 2}}))},
		{head + "function\nyield\n", good(of([]api.Ins{{Op: 14}}))},
		{head + "function\nret 6\n", good(of([]api.Ins{{Op: 15, A: 6}}))},
		{head + "function\nret 0", good(of([]api.Ins{{Op: api.Ret, A: 0}}))},
	})
}

// P4.1: functions one behind the other, with none too, and with no instruction.
func TestParseTakesFunctions(t *testing.T) {
	checkRows(t, []row{
		{head, good(of())},
		{head + "function\n", good(of(nil))},
		{head + "function\nfunction\nfunction\n", good(of(nil, nil, nil))},
		{head + "function\nyield\nret 1\nfunction\nfunction\nret 2\n", good(of([]api.Ins{{Op: 14}, {Op: 15, A: 1}}, nil, []api.Ins{{Op: 15, A: 2}}))},
	})
}

// P4.1: lines are lines of tokens, so what lex passes over turns nothing, and a text may end without the byte 10.
func TestParsePassesOverBlanksAndComments(t *testing.T) {
	want := good(of([]api.Ins{{Op: 2, A: 1, B: 2, C: 3}, {Op: 15, A: 0}}))
	for _, s := range []string{
		head + "function\n  add 1, 2, 3\n  ret 0\n",
		head + "function\n  add 1, 2, 3\n  ret 0",
		head + "function\n  add 1, 2, 3\n  ret 0 # no byte 10",
		head + "function\nadd 1,2,3\nret 0\n",
		head + "function\nadd 1 ,\t2 , 3 \r\n\n\n\tret 00\n\n# end\n",
		"# a\n\n" + strings.ReplaceAll(head, "\n", " # x, y: z\n# function\n\n") + "function#\nadd 1, 2, 3\nret -0",
	} {
		check(t, s, want)
	}
}

// P4.2: the first three lines at the ends of their ranges and beyond.
func TestParseFirstThreeLines(t *testing.T) {
	text := func(futs, depth, fuel int) string {
		return spell("futures", []int{futs}) + "\n" + spell("depth", []int{depth}) + "\n" + spell("fuel", []int{fuel}) + "\n"
	}
	for _, futs := range []int{least, -1, 0, 1, 15, 16, 17, 256, most} {
		for _, depth := range []int{least, -1, 0, 1, 4, 5, 6, 256, most} {
			for _, fuel := range []int{least, -1, 0, 1, 2, 499, 500, 501, 65537, most} {
				want := good(api.Prog{Futs: futs, Depth: depth, Fuel: fuel})
				switch {
				case futs < 0 || futs > 16:
					want = wrong(1)
				case depth < 0 || depth > 5:
					want = wrong(2)
				case fuel < 1 || fuel > 500:
					want = wrong(3)
				}
				check(t, text(futs, depth, fuel), want)
			}
		}
	}
}

// P4.2: each operand at its first and last place, and one beyond.
func TestParseOperandsAtTheirEnds(t *testing.T) {
	for _, k := range kinds() {
		for at, last := range k.lasts {
			v := make([]int, len(k.lasts))
			for _, n := range []int{low(last), last, -1, last + 1, 255, 256, 1 << 30} {
				v[at] = n
				s := head + "function\nyield\n" + spell(k.word, v) + "\nyield\n"
				switch {
				case n > most:
					check(t, s, wrong(6)) // lex says so
				case n < low(last) || n > last:
					check(t, s, wrong(6))
				default:
					check(t, s, good(of([]api.Ins{{Op: 14}, ins(k.op, v), {Op: 14}})))
				}
			}
		}
	}
	check(t, head+"function\nconst 0, -2147483649\n", wrong(5))
}

// P4.2: a line is missing, or all are.
func TestParseMissingLines(t *testing.T) {
	checkRows(t, []row{
		{"", wrong(1)},
		{"\n", wrong(1)},
		{"\n\n\n", wrong(1)},
		{"# futures 1", wrong(1)},
		{" \t\r\n# a\n\n", wrong(1)},
		{"futures 1", wrong(2)},
		{"futures 1\n", wrong(2)},
		{"futures 1\n\n\n# x\n", wrong(2)},
		{"\n\nfutures 1\n", wrong(4)},
		{"futures 1\ndepth 1", wrong(3)},
		{"futures 1\n\ndepth 1\n\n", wrong(4)},
		{"futures 17\n", wrong(2)},
		{"futures 17\ndepth 6\n", wrong(3)},
	})
}

// P4.1, P4.2: lines that are none, each with its line.
func TestParseWrongLines(t *testing.T) {
	checkRows(t, []row{
		// another order of the first three lines, or one of them again
		{"depth 1\nfutures 1\nfuel 1\n", wrong(1)},
		{"depth 1\nfuel 1\nfutures 1\n", wrong(1)},
		{"fuel 1\nfutures 1\ndepth 1\n", wrong(1)},
		{"fuel 1\ndepth 1\nfutures 1\n", wrong(1)},
		{"futures 1\nfuel 1\ndepth 1\n", wrong(2)},
		{"futures 1\nfutures 1\nfuel 1\n", wrong(2)},
		{"futures 1\ndepth 1\ndepth 1\n", wrong(3)},
		{"futures 1\ndepth 1\nfutures 1\n", wrong(3)},
		{"function\n" + head, wrong(1)},
		{"futures 1\nfunction\n", wrong(2)},
		{"futures 1\ndepth 1\nfunction\n", wrong(3)},
		{"futures 1\ndepth 1\nyield\n", wrong(3)},
		{head + "futures 3\n", wrong(4)},
		{head + "depth 2\n", wrong(4)},
		{head + "fuel 9\n", wrong(4)},
		{head + "function\nfutures 3\n", wrong(5)},
		{head + "function\ndepth 2\n", wrong(5)},
		{head + "function\nyield\nfuel 9\n", wrong(6)},
		// an instruction ahead of every function
		{head + "yield\n", wrong(4)},
		{head + "ret 0\nfunction\n", wrong(4)},
		// unknown words
		{head + "function\nhop\n", wrong(5)},
		{head + "function\nr\n", wrong(5)},
		{head + "function\nrets 0\n", wrong(5)},
		{head + "functions\n", wrong(4)},
		{head + "future 1\n", wrong(4)},
		{"future 1\ndepth 1\nfuel 1\n", wrong(1)},
		{"futures 1\ndeep 1\nfuel 1\n", wrong(2)},
		// operands missing, or too many
		{"futures\ndepth 1\nfuel 1\n", wrong(1)},
		{"futures 1\ndepth 1, 2\nfuel 1\n", wrong(2)},
		{"futures 1\ndepth 1\nfuel 1 2\n", wrong(3)},
		{head + "function 0\n", wrong(4)},
		{head + "function\nyield 0\n", wrong(5)},
		{head + "function\nret\n", wrong(5)},
		{head + "function\nret 0, 0\n", wrong(5)},
		{head + "function\nconst 0\n", wrong(5)},
		{head + "function\nconst 0, 0, 0\n", wrong(5)},
		{head + "function\nadd 0, 1\n", wrong(5)},
		{head + "function\nadd 0, 1, 2, 3\n", wrong(5)},
		// signs missing, too many, or others
		{head + "function\nadd 0 1 2\n", wrong(5)},
		{head + "function\nadd 0, 1 2\n", wrong(5)},
		{head + "function\nadd 0 1, 2\n", wrong(5)},
		{head + "function\nadd , 0, 1, 2\n", wrong(5)},
		{head + "function\nadd, 0, 1, 2\n", wrong(5)},
		{head + "function\nadd 0, 1, 2,\n", wrong(5)},
		{head + "function\nadd 0, 1,\n", wrong(5)},
		{head + "function\nadd 0,, 1, 2\n", wrong(5)},
		{head + "function\nadd 0: 1, 2\n", wrong(5)},
		{head + "function\nadd 0, , ,\n", wrong(5)},
		{head + "function\nyield ,\n", wrong(5)},
		{head + "function\nyield :\n", wrong(5)},
		{head + "function:\n", wrong(4)},
		{head + "function\nret: 0\n", wrong(5)},
		{head + "function\nret 0-0\n", wrong(5)},
		// words and numbers in one another's place
		{head + "function\n5\n", wrong(5)},
		{head + "function\n,\n", wrong(5)},
		{head + "function\n:\n", wrong(5)},
		{head + "function\n0 ret\n", wrong(5)},
		{head + "function\nret r\n", wrong(5)},
		{head + "function\nadd 0, a, 2\n", wrong(5)},
		{head + "function\nadd 0 add 1 add 2\n", wrong(5)},
		{head + "function\nyield yield\n", wrong(5)},
		{head + "function yield\n", wrong(4)},
		{"futures depth\ndepth 1\nfuel 1\n", wrong(1)},
		// two lines in one, one line in two
		{"futures 1 depth 1 fuel 1\n", wrong(1)},
		{"futures\n1\ndepth 1\nfuel 1\n", wrong(1)},
		{head + "function\nadd 0,\n1, 2\n", wrong(5)},
		{head + "function\nret\n0\n", wrong(5)},
	})
}

// P4.2: which of two wrong lines is told: lex's ahead of all, then lines that are none, then too much, then numbers.
func TestParseTellsTheFirstError(t *testing.T) {
	manyFuncs := strings.Repeat("function\n", maxFuncs+1)
	manyLines := "function\n" + strings.Repeat("yield\n", maxCode+1)
	checkRows(t, []row{
		{strings.Repeat("A", maxText+1), big()},
		{"hop\n" + strings.Repeat("#", maxText), big()},
		{"hop\nA\n", wrong(2)},
		{"hop\nret 5x\n", wrong(2)},
		{"hop\nhop\n", wrong(1)},
		{head + "function\nhop\nfunction 1\n", wrong(5)},
		{head + "function\nfunction 1\nhop\n", wrong(5)},
		{"futures 17\ndepth 6\nfuel 0\nfunction\nhop\n", wrong(5)},
		{head + "function\nret 8\nhop\n", wrong(6)},
		{head + manyFuncs + "hop\n", wrong(17)},
		{head + manyLines + "hop\n", wrong(46)},
		{"futures 17\ndepth 6\nfuel 0\n" + manyFuncs, big()},
		{"futures 17\ndepth 6\nfuel 0\n" + manyLines, big()},
		{head + "function\nret 8\n" + manyFuncs, big()},
		{head + manyLines + "function\nret 8\n", big()},
		{head + "function\nret 8\n" + manyLines, big()},
		{head + "function\nret 7\nret 8\nret 9\n", wrong(6)},
		{head + "function\nret 7\nfunction\njump 40\nret 8\n", wrong(7)},
		{"futures 1\ndepth 1\nfuel 0\nfunction\nret 8\n", wrong(3)},
		{"futures 1\n\n# x\ndepth 6\nfuel 0\n", wrong(4)},
		{head + "function\n\n\nadd 0, 8, 9\n", wrong(7)},
	})
}

// P4.2: so many functions, so many instructions, and one more.
func TestParseTooMuch(t *testing.T) {
	check(t, head+strings.Repeat("function\n", maxFuncs), good(of(make([][]api.Ins, maxFuncs)...)))
	check(t, head+strings.Repeat("function\n", maxFuncs+1), big())
	check(t, head+strings.Repeat("function\n", 800), big())
	full := make([]api.Ins, maxCode)
	for k := range full {
		full[k].Op = api.Yield
	}
	yields := func(n int) string { return "function\n" + strings.Repeat("yield\n", n) }
	check(t, head+yields(maxCode), good(of(full)))
	check(t, head+yields(maxCode+1), big())
	check(t, head+yields(1)+yields(maxCode)+yields(0), good(of(full[:1], full, nil)))
	check(t, head+yields(1)+yields(maxCode+1)+yields(0), big())
	check(t, head+strings.Repeat(yields(maxCode), maxFuncs), good(of(slices.Repeat([][]api.Ins{full}, maxFuncs)...)))
	check(t, head+strings.Repeat(yields(maxCode), maxFuncs+1), big())
}

// P4.2: lex's errors come as they are, at the text's greatest length too.
func TestParseLexErrors(t *testing.T) {
	pad := func(s string, n int) string { return s + strings.Repeat("#", n-len(s)) }
	checkRows(t, []row{
		{pad(head, maxText), good(of())},
		{pad(head, maxText+1), big()},
		{"A", wrong(1)},
		{"futures 1\n\x00", wrong(2)},
		{"futures -\n", wrong(1)},
		{"futures 2147483648\n", wrong(1)},
		{head + "function\nret 5x", wrong(5)},
		{head + "function\nret\xff", wrong(5)},
		{head + "Function\n", wrong(4)},
	})
}

// reference reads a text by lines of its own, with no help of lex or code; the text has no comment and no odd byte.
func reference(s string) answer {
	var p api.Prog
	firstOut, last, seen := 0, 0, 0
	out := func(line int, v, low, high int) {
		if firstOut == 0 && (v < low || v > high) {
			firstOut = line
		}
	}
	number := regexp.MustCompile(`^-?[0-9]+$`)
	for n, l := range strings.Split(s, "\n") {
		line := n + 1
		word, rest, _ := strings.Cut(strings.TrimSpace(l), " ")
		if word == "" {
			continue
		}
		var v []int
		if rest = strings.TrimSpace(rest); rest != "" {
			for _, x := range strings.Split(rest, ",") {
				x = strings.TrimSpace(x)
				if !number.MatchString(x) {
					return wrong(line)
				}
				y, _ := strconv.Atoi(x)
				v = append(v, y)
			}
		}
		switch {
		case seen < 3:
			if word != []string{"futures", "depth", "fuel"}[seen] || len(v) != 1 {
				return wrong(line)
			}
			*[]*int{&p.Futs, &p.Depth, &p.Fuel}[seen] = v[0]
			out(line, v[0], []int{0, 0, 1}[seen], []int{16, 5, 500}[seen])
		case word == "function" && len(v) == 0:
			p.Funcs = append(p.Funcs, nil)
		default:
			at := slices.IndexFunc(kinds(), func(k kind) bool { return k.word == word })
			if at < 0 || len(p.Funcs) == 0 || len(kinds()[at].lasts) != len(v) {
				return wrong(line)
			}
			k := kinds()[at]
			f := &p.Funcs[len(p.Funcs)-1]
			*f = append(*f, ins(k.op, v))
			for j, x := range v {
				out(line, x, low(k.lasts[j]), k.lasts[j])
			}
		}
		last = line
		seen++
	}
	if seen < 3 {
		return wrong(last + 1)
	}
	if len(p.Funcs) > maxFuncs || slices.ContainsFunc(p.Funcs, func(f []api.Ins) bool { return len(f) > maxCode }) {
		return big()
	}
	if firstOut > 0 {
		return wrong(firstOut)
	}
	return good(p)
}

// P4.1, P4.2: all texts of a few lines out of good, wrong and empty ones, held against the reference.
func TestParseAgainstReference(t *testing.T) {
	lines := []string{"futures 1", "futures 17", "depth 2", "depth -1", "fuel 5", "fuel 0", "function", "yield", "ret 8", "hop", "add 1, 2", ""}
	var try func(front string, left int)
	try = func(front string, left int) {
		check(t, front, reference(front))
		if left == 0 {
			return
		}
		for _, l := range lines {
			try(front+l+"\n", left-1)
		}
	}
	try("", 4)
	try(head, 4)
	try("futures 17\ndepth 2\nfuel 0\n", 3)
	try(head+"function\nadd 0, 8, 1\n", 3)
}

// P4.1: every word with up to four operands, of which one may be out of range, held against the reference.
func TestParseOperandCounts(t *testing.T) {
	words := []string{"futures", "depth", "fuel", "function", "hop"}
	for _, k := range kinds() {
		words = append(words, k.word)
	}
	for _, w := range words {
		for n := 0; n <= 4; n++ {
			for _, v := range []int{0, 3, 7, 11, 15, 39, 40, -1} {
				s := head + "function\n" + spell(w, slices.Repeat([]int{v}, n)) + "\n"
				check(t, s, reference(s))
			}
		}
	}
}

// P4.2: the text's form, byte by byte.
func TestTextForm(t *testing.T) {
	for _, x := range []struct {
		p    api.Prog
		want string
	}{
		{api.Prog{Fuel: 1}, "futures 0\ndepth 0\nfuel 1\n"},
		{api.Prog{Futs: 16, Depth: 5, Fuel: 500}, "futures 16\ndepth 5\nfuel 500\n"},
		{of(nil), head + "function\n"},
		{of(nil, nil), head + "function\nfunction\n"},
		{of([]api.Ins{{Op: 1, A: 3, B: -2}}), head + "function\n  const 3, -2\n"},
		{of([]api.Ins{{Op: 1, A: 0, B: least}, {Op: 1, A: 7, B: most}}), head + "function\n  const 0, -2147483648\n  const 7, 2147483647\n"},
		{of([]api.Ins{{Op: 2, A: 1, B: 2, C: 3}, {Op: 3, A: 2, B: 3, C: 4}, {Op: 4, A: 3, B: 4, C: 5}}), head + "function\n  add 1, 2, 3\n  sub 2, 3, 4\n  mul 3, 4, 5\n"},
		{of([]api.Ins{{Op: 5, A: 4, B: 5, C: 6}, {Op: 6, A: 5, B: 6, C: 7}}), head + "function\n  div 4, 5, 6\n  less 5, 6, 7\n"},
		{of([]api.Ins{{Op: 7, A: 38}, {Op: 8, A: 6, B: 37}}), head + "function\n  jump 38\n  zero 6, 37\n"},
		{of([]api.Ins{{Op: 9, A: 2, B: 10, C: 5}, {Op: 10, A: 4, B: 1}}), head + "function\n  fork 2, 10, 5\n  join 4, 1\n"},
		{of([]api.Ins{{Op: 11, A: 13, B: 6}, {Op: 12, A: 5, B: 12}}), head + "function\n  set 13, 6\n  get 5, 12\n"},
		{of([]api.Ins{{Op: 13, A: 2}, {Op: 14}}, nil, []api.Ins{{Op: 15, A: 6}}), head + "function\n  cancel 2\n  yield\nfunction\nfunction\n  ret 6\n"},
	} {
		if got := Text(x.p); got != x.want {
			t.Errorf("Text(%v) = %q, want %q", x.p, got, x.want)
		}
	}
}

// P4.2: no text of what code's Put refuses.
func TestTextOfNoProgram(t *testing.T) {
	bad := []api.Prog{
		{},
		{Fuel: 501},
		{Fuel: -1},
		{Fuel: 1, Futs: -1},
		{Fuel: 1, Futs: 17},
		{Fuel: 1, Depth: -1},
		{Fuel: 1, Depth: 6},
		of(make([][]api.Ins, maxFuncs+1)...),
		of(nil, slices.Repeat([]api.Ins{{Op: 14}}, maxCode+1)),
		of([]api.Ins{{}}),
		of([]api.Ins{{Op: 16}}),
		of([]api.Ins{{Op: 19}}),
		of([]api.Ins{{Op: -1}}),
		of([]api.Ins{{Op: most}}),
		of([]api.Ins{{Op: 14}}, []api.Ins{{Op: 15, A: 8}}),
		of([]api.Ins{{Op: 14, A: 1}}),
		of([]api.Ins{{Op: 15, B: 1}}),
		of([]api.Ins{{Op: 1, B: most + 1}}),
	}
	for _, p := range bad {
		if got := Text(p); got != "" {
			t.Errorf("Text(%v) = %q, want none", p, got)
		}
	}
}

// programs are some of every shape: each instruction with its operands at both ends and between, in functions of all sizes.
func programs() []api.Prog {
	l := []api.Prog{{Fuel: 1}, {Fuel: 500, Futs: 16, Depth: 5}, of(), of(nil), of(make([][]api.Ins, maxFuncs)...)}
	var all []api.Ins
	for _, k := range kinds() {
		l0, mid, l1 := make([]int, 3), make([]int, 3), make([]int, 3)
		for j, last := range k.lasts {
			l0[j], mid[j], l1[j] = low(last), last/2+j%2, last
		}
		all = append(all, ins(k.op, l0), ins(k.op, mid), ins(k.op, l1))
	}
	for _, i := range all {
		l = append(l, of([]api.Ins{i}), of(nil, []api.Ins{i, i}, nil))
	}
	for n := 0; n <= maxCode; n++ {
		l = append(l, of(all[:n], all[len(all)-n:]))
	}
	return append(l, of(slices.Repeat([][]api.Ins{all[:maxCode]}, maxFuncs)...), of(slices.Repeat([][]api.Ins{slices.Repeat([]api.Ins{{Op: 14}}, maxCode)}, maxFuncs)...))
}

// P4.3: Parse of Text is the program again.
func TestParseOfText(t *testing.T) {
	for _, p := range programs() {
		s := Text(p)
		if s == "" || len(s) > maxText {
			t.Fatalf("Text(%v) has %d bytes", p, len(s))
		}
		check(t, s, good(p))
		check(t, strings.TrimSuffix(s, "\n"), good(p))
	}
}

// P4.3: a text that is longer than MaxText is told all the same; only Parse refuses it.
func TestTextLongerThanMaxText(t *testing.T) {
	full := slices.Repeat([]api.Ins{{Op: 1, A: 7, B: least}}, maxCode)
	p := of(slices.Repeat([][]api.Ins{full}, maxFuncs)...)
	want := head + strings.Repeat("function\n"+strings.Repeat("  const 7, -2147483648\n", maxCode), maxFuncs)
	if got := Text(p); got != want {
		t.Errorf("Text has %d bytes, want %d", len(got), len(want))
	}
	check(t, want, big())
	exact, over := ofLength(maxText), ofLength(maxText+1)
	if a, b := len(Text(exact)), len(Text(over)); a != maxText || b != maxText+1 {
		t.Fatal(a, b)
	}
	check(t, Text(exact), good(exact))
	check(t, Text(over), big())
}

// ofLength is a program whose text has that many bytes: the numbers of its first instructions have as many digits more as it takes.
func ofLength(bytes int) api.Prog {
	p := of(make([][]api.Ins, maxFuncs)...)
	for k := range p.Funcs {
		p.Funcs[k] = slices.Repeat([]api.Ins{{Op: 1, A: 1, B: 1}}, maxCode)
	}
	left := bytes - len(Text(p))
	for _, f := range p.Funcs {
		for k := range f {
			for ; left > 0 && f[k].B < 1000000000; left-- {
				f[k].B *= 10
			}
		}
	}
	return p
}

// R3, R4: what is handed in is not changed, what is answered is new memory, and the same each time.
func TestAnswersShareNothing(t *testing.T) {
	p := of([]api.Ins{{Op: 2, A: 1, B: 2, C: 3}, {Op: 15, A: 1}}, nil, []api.Ins{{Op: 14}})
	s := Text(p)
	if !same(p, of([]api.Ins{{Op: 2, A: 1, B: 2, C: 3}, {Op: 15, A: 1}}, nil, []api.Ins{{Op: 14}})) {
		t.Fatal("Text has changed its argument")
	}
	a, b := ask(s), ask(s)
	if !reflect.DeepEqual(a, b) {
		t.Fatal(a, b)
	}
	// Spoil all of one answer, spare room too, list by list: neither its other lists nor the next answer may show it.
	for k := range a.p.Funcs {
		f := a.p.Funcs[k]
		f = f[:cap(f)]
		for j := range f {
			f[j] = api.Ins{Op: 99, A: k}
		}
		for j := k + 1; j < len(a.p.Funcs); j++ {
			if !slices.Equal(a.p.Funcs[j], b.p.Funcs[j]) {
				t.Fatal("two lists of one answer share memory")
			}
		}
	}
	for spare, k := a.p.Funcs[:cap(a.p.Funcs)], 0; k < len(spare); k++ {
		spare[k] = []api.Ins{{Op: 98}}
	}
	if c := ask(s); !alike(b, good(p)) || !alike(c, good(p)) || Text(p) != s {
		t.Error("an answer hangs on another")
	}
}
