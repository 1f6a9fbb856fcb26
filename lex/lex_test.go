package lex

import (
	"regexp"
	"slices"
	"strconv"
	"strings"
	"testing"

	"magpie/api"
)

// The document's numbers, written out apart from the package's.
const maxText = 8192

func word(line int, s string) Token { return Token{Kind: 1, S: s, Line: line} }
func num(line, n int) Token         { return Token{Kind: 2, N: n, Line: line} }
func sign(line int, s string) Token { return Token{Kind: 3, S: s, Line: line} }
func end(line int) Token            { return Token{Kind: 4, Line: line} }

// answer is what a call of All gives.
type answer struct {
	l    []Token
	line int
	e    api.Errno
}

func ask(s string) answer {
	l, line, e := All(s)
	return answer{l, line, e}
}

func good(l ...Token) answer { return answer{l: l} }

func wrong(line int) answer { return answer{line: line, e: api.ErrText} }

// alike takes nil and an empty list for one.
func alike(a, b answer) bool {
	return a.line == b.line && a.e == b.e && slices.Equal(a.l, b.l)
}

func check(t *testing.T, s string, want answer) {
	t.Helper()
	if got := ask(s); !alike(got, want) {
		t.Errorf("All(%.60q) = %v, want %v", s, got, want)
	}
}

type row struct {
	s    string
	want answer
}

func checkRows(t *testing.T, rows []row) {
	t.Helper()
	for _, r := range rows {
		check(t, r.s, r.want)
	}
}

// front is the longest piece of a line that may stand alone.
var front = regexp.MustCompile(`^(?:([ \t\r])|([a-z]+)|(-?[0-9]+)|([:,]))`)

// reference reads a text as the document says, line by line and piece by piece, without the package's help.
func reference(s string) answer {
	if len(s) > maxText {
		return answer{e: api.ErrBig}
	}
	var l []Token
	for k, line := range strings.Split(s, "\n") {
		line, _, _ = strings.Cut(line, "#")
		of, ok := piecesOf(line, k+1)
		if !ok {
			return wrong(k + 1)
		}
		if len(of) > 0 {
			l = append(append(l, of...), end(k+1))
		}
	}
	return good(l...)
}

func piecesOf(line string, number int) (l []Token, ok bool) {
	for len(line) > 0 {
		m := front.FindStringSubmatch(line)
		if m == nil {
			return nil, false
		}
		line = line[len(m[0]):]
		switch {
		case m[2] != "":
			if line != "" && strings.Contains("0123456789", line[:1]) {
				return nil, false
			}
			l = append(l, word(number, m[2]))
		case m[3] != "":
			n, err := strconv.ParseInt(m[3], 10, 32)
			if err != nil || line != "" && 'a' <= line[0] && line[0] <= 'z' {
				return nil, false
			}
			l = append(l, num(number, int(n)))
		case m[4] != "":
			l = append(l, sign(number, m[4]))
		}
	}
	return l, true
}

// everyText hands out all texts of at most that many bytes of an alphabet.
func everyText(alphabet string, most int, use func(string)) {
	var grow func(string)
	grow = func(s string) {
		use(s)
		if len(s) < most {
			for k := range len(alphabet) {
				grow(s + alphabet[k:k+1])
			}
		}
	}
	grow("")
}

// P3.1: what a text has.

func TestKinds(t *testing.T) {
	if Word != 1 || Number != 2 || Sign != 3 || End != 4 {
		t.Error(Word, Number, Sign, End)
	}
}

func TestTokens(t *testing.T) {
	checkRows(t, []row{
		{"a 5", good(word(1, "a"), num(1, 5), end(1))},
		{"const 0, 5\nret 0\n", good(word(1, "const"), num(1, 0), sign(1, ","), num(1, 5), end(1), word(2, "ret"), num(2, 0), end(2))},
		{"abcdefghijklmnopqrstuvwxyz", good(word(1, "abcdefghijklmnopqrstuvwxyz"), end(1))},
		{"az za", good(word(1, "az"), word(1, "za"), end(1))},
		{"1234567890", good(num(1, 1234567890), end(1))},
		{"a:", good(word(1, "a"), sign(1, ":"), end(1))},
		{"::,,", good(sign(1, ":"), sign(1, ":"), sign(1, ","), sign(1, ","), end(1))},
		{"a,b:5,-6:c", good(word(1, "a"), sign(1, ","), word(1, "b"), sign(1, ":"), num(1, 5), sign(1, ","), num(1, -6), sign(1, ":"), word(1, "c"), end(1))},
	})
}

func TestMinusBeginsANumber(t *testing.T) {
	checkRows(t, []row{
		{"5-3", good(num(1, 5), num(1, -3), end(1))},
		{"-5-3 4", good(num(1, -5), num(1, -3), num(1, 4), end(1))},
		{"a-1", good(word(1, "a"), num(1, -1), end(1))},
		{",-1:-2", good(sign(1, ","), num(1, -1), sign(1, ":"), num(1, -2), end(1))},
		{"-1\n2", good(num(1, -1), end(1), num(2, 2), end(2))},
	})
}

func TestBlanks(t *testing.T) {
	checkRows(t, []row{
		{" \t\ra\t\r b\r \t", good(word(1, "a"), word(1, "b"), end(1))},
		{"a\rb", good(word(1, "a"), word(1, "b"), end(1))},
		{"5\t6", good(num(1, 5), num(1, 6), end(1))},
		{"a\r\nb\r\n", good(word(1, "a"), end(1), word(2, "b"), end(2))},
		{"a 5 a", good(word(1, "a"), num(1, 5), word(1, "a"), end(1))},
	})
}

func TestNumbersToTheirEnds(t *testing.T) {
	checkRows(t, []row{
		{"0 -0 00 -00", good(num(1, 0), num(1, 0), num(1, 0), num(1, 0), end(1))},
		{"007 -007", good(num(1, 7), num(1, -7), end(1))},
		{"2147483647", good(num(1, 1<<31-1), end(1))},
		{"2147483646 -2147483647", good(num(1, 1<<31-2), num(1, 1-1<<31), end(1))},
		{"-2147483648", good(num(1, -1<<31), end(1))},
		{strings.Repeat("0", 500) + "2147483647", good(num(1, 1<<31-1), end(1))},
		{"-" + strings.Repeat("0", 500) + "2147483648", good(num(1, -1<<31), end(1))},
	})
}

func TestNumbersBeyond(t *testing.T) {
	for _, s := range []string{
		"2147483648", "-2147483649", "2147483650", "-2147483650", "4294967296", "-4294967296", "4294967301",
		"9223372036854775807", "9223372036854775808", "-9223372036854775808", "-9223372036854775809",
		"18446744073709551616", "18446744073709551621", "-18446744073709551621", strings.Repeat("9", maxText), "-" + strings.Repeat("9", maxText-1),
		"1" + strings.Repeat("0", 40), "000002147483648", "-000002147483649",
	} {
		check(t, s, wrong(1))
		if len(s) < 100 {
			check(t, "a\n\n 5, "+s+" b\n", wrong(3))
		}
	}
}

// P3.1: lines.

func TestLinesWithNoToken(t *testing.T) {
	checkRows(t, []row{
		{"", good()},
		{"\n", good()},
		{" \t\r", good()},
		{"\n\n \t\r\n", good()},
		{"#\n # b\n", good()},
		{"\n\na\n\n\nb\n\n", good(word(3, "a"), end(3), word(6, "b"), end(6))},
		{" \n5\n \n,\n#\n", good(num(2, 5), end(2), sign(4, ","), end(4))},
	})
}

func TestTheEndWithoutTheByteTen(t *testing.T) {
	for _, s := range []string{"", "a", "5", "-5", ",", "a b", "a\n5 ", "a\n\n", "a\n:", "a # b", "#", "a\n#", "a\n \t\r"} {
		if without, with := ask(s), ask(s+"\n"); !alike(without, with) || with.e != api.OK {
			t.Errorf("All(%q) = %v, with the byte 10 at its end %v", s, without, with)
		}
	}
	checkRows(t, []row{
		{"a\nb", good(word(1, "a"), end(1), word(2, "b"), end(2))},
		{"a\n5", good(word(1, "a"), end(1), num(2, 5), end(2))},
		{"a\n-", wrong(2)},
	})
}

func TestComments(t *testing.T) {
	checkRows(t, []row{
		{"a#b\nc", good(word(1, "a"), end(1), word(2, "c"), end(2))},
		{"5#6\n-7# 8 # 9\n,#", good(num(1, 5), end(1), num(2, -7), end(2), sign(3, ","), end(3))},
		{"a # the end", good(word(1, "a"), end(1))},
		{"a\n# the end", good(word(1, "a"), end(1))},
		{"# A;-x5 5x 99999999999\na", good(word(2, "a"), end(2))},
		{"##\n###\na", good(word(3, "a"), end(3))},
		{"a # \u00e9\u2028\u0085\u65e5\ufffd\U0001f426\nb", good(word(1, "a"), end(1), word(2, "b"), end(2))},
	})
}

func TestAnyByteInAComment(t *testing.T) {
	for b := range 256 {
		c := string([]byte{byte(b)})
		if b == '\n' {
			check(t, "a#"+c+"b", good(word(1, "a"), end(1), word(2, "b"), end(2)))
			continue
		}
		check(t, "a#"+c, good(word(1, "a"), end(1)))
		check(t, "a#"+c+c+"\nb", good(word(1, "a"), end(1), word(2, "b"), end(2)))
		check(t, "#"+c+"\n;", wrong(2))
	}
}

// P3.1: more than there may be.

func TestBytesToTheirEnd(t *testing.T) {
	l := make([]Token, 0, maxText+1)
	for range maxText / 2 {
		l = append(l, word(1, "a"), sign(1, ","))
	}
	full := strings.Repeat("x", maxText)
	checkRows(t, []row{
		{strings.Repeat("a,", maxText/2), good(append(l, end(1))...)},
		{full, good(word(1, full), end(1))},
		{strings.Repeat("\n", maxText-1) + "a", good(word(maxText, "a"), end(maxText))},
		{strings.Repeat("\n", maxText-1) + ";", wrong(maxText)},
		{strings.Repeat(" ", maxText), good()},
		{"#" + strings.Repeat("\u00e9", maxText/2-1) + "x", good()},
		{strings.Repeat("0", maxText), good(num(1, 0), end(1))},
	})
}

func TestOneByteMore(t *testing.T) {
	for _, s := range []string{
		strings.Repeat(" ", maxText+1),
		strings.Repeat("\n", maxText+1),
		strings.Repeat("x", maxText+1),
		strings.Repeat("x", maxText) + "\n",
		strings.Repeat("a,", maxText),
		"#" + strings.Repeat("\u00e9", maxText/2), // fewer runes than that, but not fewer bytes
		strings.Repeat(";", maxText+1),            // ErrBig is named ahead of ErrText
		"a\n-\n" + strings.Repeat("9", maxText),
		strings.Repeat("\xff", 3*maxText),
	} {
		check(t, s, answer{e: api.ErrBig})
	}
}

// P3.1: what may not stand there, and its line.

func TestOtherBytes(t *testing.T) {
	const fine = "abcdefghijklmnopqrstuvwxyz0123456789:,# \t\r\n"
	for b := range 256 {
		c := string([]byte{byte(b)})
		if strings.Contains(fine, c) {
			check(t, c, reference(c))
			continue
		}
		for _, ahead := range []string{"", " ", "a", "5", "-5", ",", ":", "a b, 5 "} {
			for _, behind := range []string{"", " ", "a", ",", "\n", "#", "\nb\n"} {
				check(t, ahead+c+behind, wrong(1))
				check(t, "a 5\n#\n\n"+ahead+c+behind, wrong(4))
			}
		}
	}
}

func TestOtherRunes(t *testing.T) {
	for _, s := range []string{
		"\u00e9", "\u00df", "\u0430", "\uff41", "\u0663", "\uff15", "\u00a0", "\u2028", "\u0085", "\ufeff", "\ufffd", "\u2212", "\uff0c", "\U0001f426", "\U0010ffff",
		"\u0161", // its lowest eight bits are a letter's
		"\u010a", // its lowest eight bits are the byte 10
		"\xc0\x8a", "\xe9", "\xed\xa0\x80", "\xf4\x90\x80\x80", "\x80", "\xff",
	} {
		check(t, s, wrong(1))
		check(t, "a\n"+s+"\nb", wrong(2))
		check(t, "# "+s+"\nb"+s, wrong(2))
	}
}

func TestLettersBehindDigitsAndDigitsBehindLetters(t *testing.T) {
	for _, s := range []string{"5a", "0z", "-5a", "12ab", "2147483647a", "-2147483648z", "a5", "z0", "ab12", "a5a", "5a5", "a 5b", "a,b5", "5-3a", "a-1b"} {
		check(t, s, wrong(1))
		check(t, s+"\n", wrong(1))
		check(t, "a\n5\n"+s+" b\n;", wrong(3))
	}
}

func TestMinusWithNoDigit(t *testing.T) {
	for _, s := range []string{"-", "- 5", "-\t5", "-\r5", "--5", "--", "-\n5", "-a", "-,", "-:5", "-#5", "-#", "5-", "5--3", "a-", "a-b", "-5-", "-A", "-\xff"} {
		check(t, s, wrong(1))
		check(t, "\n \na "+s+"\nb", wrong(3))
	}
}

func TestTheFirstFaultIsTold(t *testing.T) {
	checkRows(t, []row{
		{"a\n5x\n;\n-", wrong(2)},
		{"a\n;\n5x", wrong(2)},
		{"-\n\n99999999999", wrong(1)},
		{"a\n\n99999999999 5x\n-\n", wrong(3)},
		{"a\n# 5x\n-", wrong(3)},
	})
}

func TestEveryShortTextIsAsInTheReference(t *testing.T) {
	everyText("az09-:,# \n;", 5, func(s string) {
		if got, want := ask(s), reference(s); !alike(got, want) {
			t.Fatalf("All(%q) = %v, want %v", s, got, want)
		}
	})
}

func TestEveryTwoBytesAreAsInTheReference(t *testing.T) {
	for b := range 1 << 16 {
		two := string([]byte{byte(b >> 8), byte(b)})
		for _, s := range []string{two, "a" + two + "5", "5\n#" + two + "b"} {
			if got, want := ask(s), reference(s); !alike(got, want) {
				t.Fatalf("All(%q) = %v, want %v", s, got, want)
			}
		}
	}
}

// P3.2: blanks and comments turn nothing.

// apart tells whether a blank ahead of the byte at that place would stand inside no token: neither a `-` nor a digit nor a letter goes on over it.
func apart(s string, at int) bool {
	if at == 0 || at == len(s) {
		return true
	}
	const inner = "abcdefghijklmnopqrstuvwxyz0123456789"
	return !strings.Contains(inner+"-", s[at-1:at]) || !strings.Contains(inner, s[at:at+1])
}

func TestBlanksTurnNothing(t *testing.T) {
	everyText("a5-,# \n;", 5, func(s string) {
		want := ask(s)
		for at := range len(s) + 1 {
			if !apart(s, at) {
				continue
			}
			for _, blank := range []string{" ", "\t", "\r", "\r \t"} {
				if got := ask(s[:at] + blank + s[at:]); !alike(got, want) {
					t.Fatalf("All(%q) = %v, with blanks ahead of byte %d %v", s, want, at, got)
				}
			}
		}
	})
}

func TestOneBlankIsAsAnother(t *testing.T) {
	everyText("a5-,# \n;", 5, func(s string) {
		want := ask(s)
		for _, blank := range []string{"\t", "\r", "  ", "\r\t"} {
			if got := ask(strings.ReplaceAll(s, " ", blank)); !alike(got, want) {
				t.Fatalf("All(%q) = %v, with other blanks %v", s, want, got)
			}
		}
	})
}

func TestCommentsTurnNothing(t *testing.T) {
	everyText("a5-,# \n;", 5, func(s string) {
		want := ask(s)
		for _, comment := range []string{"#", "# -x5, 5x;\xff", "#\u00e9#"} {
			if got := ask(strings.ReplaceAll(s, "\n", comment+"\n") + comment); !alike(got, want) {
				t.Fatalf("All(%q) = %v, with comments at the lines' ends %v", s, want, got)
			}
		}
	})
}

func TestTakingCommentsAwayTurnsNothing(t *testing.T) {
	comment := regexp.MustCompile(`#[^\n]*`)
	everyText("a5-,# \n;", 5, func(s string) {
		if got, want := ask(comment.ReplaceAllString(s, "")), ask(s); !alike(got, want) {
			t.Fatalf("All(%q) = %v, without its comments %v", s, want, got)
		}
	})
}

// R3, R4: what is answered is new, and the same each time.

func TestAnswersAreApart(t *testing.T) {
	const s = "ab 5, c\nd: -6 # e\nf"
	first := ask(s)
	want := slices.Clone(first.l)
	for _, l := range [][]Token{first.l[:cap(first.l)], ask(s).l} {
		for k := range l {
			l[k] = sign(99, "!")
		}
	}
	check(t, s, good(want...))
	ask("x;")
	check(t, s, good(want...))
}
