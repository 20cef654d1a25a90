package tests

import (
	"math"
	"regexp"
	"slices"
	"strconv"
	"strings"
	"testing"

	"loop.example/g00334/impl"
)

// stepCase is an Insn beside the text that the chapter makes of it.
type stepCase struct {
	insn impl.Insn
	text string
}

// stepCases has each Op with ordinary numbers, and with both ends of what it may tell.
func stepCases() []stepCase {
	return []stepCase{
		{impl.Insn{Op: impl.OpPush, A: 0}, "a0"},
		{impl.Insn{Op: impl.OpPush, A: 7}, "a7"},
		{impl.Insn{Op: impl.OpPush, A: -128}, "a-128"},
		{impl.Insn{Op: impl.OpPush, A: 1000000}, "a1000000"},
		{impl.Insn{Op: impl.OpPush, A: least}, "a-2147483648"},
		{impl.Insn{Op: impl.OpPush, A: greatest}, "a2147483647"},
		{impl.Insn{Op: impl.OpLoad, A: 0}, "b0"},
		{impl.Insn{Op: impl.OpLoad, A: 3}, "b3"},
		{impl.Insn{Op: impl.OpLoad, A: 7}, "b7"},
		{impl.Insn{Op: impl.OpStore, A: 0}, "c0"},
		{impl.Insn{Op: impl.OpStore, A: 5}, "c5"},
		{impl.Insn{Op: impl.OpStore, A: 7}, "c7"},
		{impl.Insn{Op: impl.OpAdd}, "d"},
		{impl.Insn{Op: impl.OpSub}, "e"},
		{impl.Insn{Op: impl.OpMul}, "f"},
		{impl.Insn{Op: impl.OpDiv}, "g"},
		{impl.Insn{Op: impl.OpDup}, "h"},
		{impl.Insn{Op: impl.OpPop}, "i"},
		{impl.Insn{Op: impl.OpSwap}, "j"},
		{impl.Insn{Op: impl.OpJump, A: 0}, "k0"},
		{impl.Insn{Op: impl.OpJump, A: 12}, "k12"},
		{impl.Insn{Op: impl.OpJump, A: 39}, "k39"},
		{impl.Insn{Op: impl.OpZero, A: 0}, "l0"},
		{impl.Insn{Op: impl.OpZero, A: 8}, "l8"},
		{impl.Insn{Op: impl.OpZero, A: 39}, "l39"},
		{impl.Insn{Op: impl.OpNull}, "m"},
		{impl.Insn{Op: impl.OpNew, A: 0}, "n0"},
		{impl.Insn{Op: impl.OpNew, A: 2}, "n2"},
		{impl.Insn{Op: impl.OpNew, A: 5}, "n5"},
		{impl.Insn{Op: impl.OpGet, A: 0, B: 0}, "o0,0"},
		{impl.Insn{Op: impl.OpGet, A: 1, B: 2}, "o1,2"},
		{impl.Insn{Op: impl.OpGet, A: 5, B: 3}, "o5,3"},
		{impl.Insn{Op: impl.OpPut, A: 0, B: 0}, "p0,0"},
		{impl.Insn{Op: impl.OpPut, A: 4, B: 1}, "p4,1"},
		{impl.Insn{Op: impl.OpPut, A: 5, B: 3}, "p5,3"},
		{impl.Insn{Op: impl.OpCall, A: 0, B: 0}, "q0,0"},
		{impl.Insn{Op: impl.OpCall, A: 2, B: 14}, "q2,14"},
		{impl.Insn{Op: impl.OpCall, A: 5, B: 19}, "q5,19"},
		{impl.Insn{Op: impl.OpNil}, "r"},
		{impl.Insn{Op: impl.OpSay}, "s"},
		{impl.Insn{Op: impl.OpGive}, "t"},
	}
}

// wrongInsns are each just one number past what the chapter allows.
func wrongInsns() []impl.Insn {
	wrong := []impl.Insn{
		{},
		{Op: 21},
		{Op: -1},
		{Op: math.MinInt64},
		{Op: math.MaxInt64},
		{Op: impl.OpPush, A: least - 1},
		{Op: impl.OpPush, A: greatest + 1},
		{Op: impl.OpPush, A: round},
		{Op: impl.OpPush, A: 5, B: 1},
		{Op: impl.OpPush, A: 5, B: -1},
		{Op: impl.OpNew, A: 6},
		{Op: impl.OpNew, A: -1},
		{Op: impl.OpNew, A: 1, B: 1},
		{Op: impl.OpCall, A: 6, B: 0},
		{Op: impl.OpCall, A: -1, B: 0},
		{Op: impl.OpCall, A: 0, B: 20},
		{Op: impl.OpCall, A: 0, B: -1},
	}
	for _, op := range []int64{impl.OpLoad, impl.OpStore} {
		wrong = append(wrong, impl.Insn{Op: op, A: 8}, impl.Insn{Op: op, A: -1}, impl.Insn{Op: op, A: 1, B: 1})
	}
	for _, op := range []int64{impl.OpJump, impl.OpZero} {
		wrong = append(wrong, impl.Insn{Op: op, A: 40}, impl.Insn{Op: op, A: -1}, impl.Insn{Op: op, A: 1, B: 1})
	}
	for _, op := range []int64{impl.OpGet, impl.OpPut} {
		wrong = append(wrong, impl.Insn{Op: op, A: 6}, impl.Insn{Op: op, A: -1}, impl.Insn{Op: op, B: 4}, impl.Insn{Op: op, B: -1})
	}
	for _, op := range untellingOps() {
		wrong = append(wrong, impl.Insn{Op: op, A: 1}, impl.Insn{Op: op, B: 1}, impl.Insn{Op: op, A: -1}, impl.Insn{Op: op, B: -1})
	}
	return wrong
}

func untellingOps() []int64 {
	return []int64{impl.OpAdd, impl.OpSub, impl.OpMul, impl.OpDiv, impl.OpDup, impl.OpPop, impl.OpSwap, impl.OpNull, impl.OpNil, impl.OpSay, impl.OpGive}
}

// wrongSteps are texts that nothing is shown as.
func wrongSteps() []string {
	return []string{
		"", " ", "0", "5", ",", "-", "A0", "T", "u", "u0", "v", "z", "`", "é", "\x00", "\xff", "\n",
		"a", "a-", "a+5", "a--5", "a-+5", "a5-", "a 5", "a5 ", " a5", "a- 5", "a00", "a05", "a-05", "a-0", "a0x5", "a0x10", "a1_000", "a1e3", "a1.0", "a5\n", "\na5", "a\t5",
		"a2147483648", "a-2147483649", "a4294967296", "a9999999999", "a00000000005", "a12345678901", "a-12345678901", "a99999999999999999999", "a-99999999999999999999", "a9223372036854775807", "a9223372036854775808",
		"a5,", "a,5", "a5,0", "a0,0", "aa", "a5a", "aa5",
		"b", "b8", "b-1", "b-0", "b00", "b01", "b0,0", "b1,", "c", "c8", "c-1", "c10", "c+1", "c1,1",
		"d0", "d1", "d,", "d0,0", "dd", "e0", "f0", "g0", "h0", "h1", "i0", "j0", "m0", "r0", "s0", "t0", "t-0", "t ", " t", "t,", "tt",
		"k", "k40", "k-1", "k-0", "k007", "k1,2", "l", "l40", "l-1", "l039", "l100", "k4294967296", "k18446744073709551616",
		"n", "n6", "n-1", "n-0", "n00", "n0,0", "n0,",
		"o", "o0", "o0,", "o,0", "o,", "o6,0", "o0,4", "o0,-1", "o-1,0", "o-0,0", "o0,-0", "o00,0", "o0,00", "o0,,0", "o0,0,", "o,0,0", "o0,0,0", "o0 0", "o0, 0", "o0 ,0", "o00", "o+0,0", "o0,+0",
		"p", "p0", "p1,", "p,1", "p6,1", "p1,4", "p1,,1", "p1,1,", "p01,1", "p1;1", "p1.1",
		"q", "q0", "q0,", "q,0", "q6,0", "q0,20", "q0,-1", "q-1,0", "q0,019", "q00,19", "q2,,19", "q2,19,", "q2,19,0", "q2 19", "q219", "q5,100",
	}
}

var stepForm = regexp.MustCompile(`^(?:a(0|-?[1-9][0-9]{0,9})|[bc][0-7]|[d-jmrst]|[kl](?:[0-9]|[123][0-9])|n[0-5]|[op][0-5],[0-3]|q[0-5],(?:[0-9]|1[0-9]))$`)

// isStep tells by the form alone, without any Insn, whether a text is a step's.
func isStep(s string) bool {
	parts := stepForm.FindStringSubmatch(s)
	if parts == nil {
		return false
	}
	if parts[1] == "" {
		return true
	}
	n, err := strconv.ParseInt(parts[1], 10, 64)
	return err == nil && isWord(n)
}

func isCodeText(s string) bool {
	parts := strings.Split(s, " ")
	return s == "" || len(parts) <= 40 && !slices.ContainsFunc(parts, func(p string) bool { return !isStep(p) })
}

// ends are the least and the greatest number that an Op may tell; both 0 where it tells none.
func ends(op int64) (a, b [2]int64, is bool) {
	switch op {
	case impl.OpPush:
		a = [2]int64{least, greatest}
	case impl.OpLoad, impl.OpStore:
		a[1] = 7
	case impl.OpJump, impl.OpZero:
		a[1] = 39
	case impl.OpNew:
		a[1] = 5
	case impl.OpGet, impl.OpPut:
		a[1], b[1] = 5, 3
	case impl.OpCall:
		a[1], b[1] = 5, 19
	}
	return a, b, op >= 1 && op <= 20
}

func between(n int64, e [2]int64) bool { return n >= e[0] && n <= e[1] }

func stepNumbers() []int64 {
	numbers := []int64{math.MinInt64, least - 1, least, -129, -20, greatest, greatest + 1, round, math.MaxInt64}
	for n := int64(-3); n <= 42; n++ {
		numbers = append(numbers, n)
	}
	return numbers
}

// rowOf has n steps, all kinds of them, going round the table of cases from a place on.
func rowOf(n int, from int) ([]impl.Insn, string) {
	var code []impl.Insn
	var texts []string
	cases := stepCases()
	for k := range n {
		c := cases[(from+k)%len(cases)]
		code = append(code, c.insn)
		texts = append(texts, c.text)
	}
	return code, strings.Join(texts, " ")
}

func TestPromise2Ops(t *testing.T) {
	ops := []int64{impl.OpPush, impl.OpLoad, impl.OpStore, impl.OpAdd, impl.OpSub, impl.OpMul, impl.OpDiv, impl.OpDup, impl.OpPop, impl.OpSwap, impl.OpJump, impl.OpZero, impl.OpNull, impl.OpNew, impl.OpGet, impl.OpPut, impl.OpCall, impl.OpNil, impl.OpSay, impl.OpGive}
	for k, op := range ops {
		if op != int64(k+1) {
			t.Errorf("Op number %d is %d", k+1, op)
		}
	}
	if impl.MaxCode != 40 {
		t.Error("MaxCode", impl.MaxCode)
	}
}

func TestPromise2RightSteps(t *testing.T) {
	for _, c := range stepCases() {
		if !impl.InsnOk(c.insn) {
			t.Errorf("InsnOk(%v) = false", c.insn)
		}
		if got := impl.ShowInsn(c.insn); got != c.text {
			t.Errorf("ShowInsn(%v) = %q, want %q", c.insn, got, c.text)
		}
		if got, is := impl.ReadInsn(c.text); !is || got != c.insn {
			t.Errorf("ReadInsn(%q) = %v, %v, want %v", c.text, got, is, c.insn)
		}
	}
}

func TestPromise2WrongInsns(t *testing.T) {
	right := impl.Insn{Op: impl.OpDup}
	for _, i := range wrongInsns() {
		if impl.InsnOk(i) {
			t.Errorf("InsnOk(%v) = true", i)
		}
		if got := impl.ShowInsn(i); got != "" {
			t.Errorf("ShowInsn(%v) = %q", i, got)
		}
		for _, code := range [][]impl.Insn{{i}, {i, right}, {right, i}, {right, i, right}} {
			if got := impl.ShowCode(code); got != "" {
				t.Errorf("ShowCode(%v) = %q", code, got)
			}
		}
	}
}

func TestPromise2AllNumbers(t *testing.T) {
	for op := int64(-2); op <= 23; op++ {
		inA, inB, known := ends(op)
		for _, a := range stepNumbers() {
			for _, b := range stepNumbers() {
				i := impl.Insn{Op: op, A: a, B: b}
				want := known && between(a, inA) && between(b, inB)
				if got := impl.InsnOk(i); got != want {
					t.Fatalf("InsnOk(%v) = %v, want %v", i, got, want)
				}
				s := impl.ShowInsn(i)
				if isStep(s) != want {
					t.Fatalf("ShowInsn(%v) = %q", i, s)
				}
				back, is := impl.ReadInsn(s)
				if is != want || want && back != i || !want && back != (impl.Insn{}) {
					t.Fatalf("ReadInsn(%q) = %v, %v, want %v", s, back, is, i)
				}
			}
		}
	}
}

func TestPromise2WrongTexts(t *testing.T) {
	for _, s := range wrongSteps() {
		if isStep(s) {
			t.Fatalf("%q is a step's", s)
		}
		if got, is := impl.ReadInsn(s); is || got != (impl.Insn{}) {
			t.Errorf("ReadInsn(%q) = %v, %v", s, got, is)
		}
		inCode := []string{s + " t", "t " + s, "t " + s + " t"}
		if s != "" {
			inCode = append(inCode, s)
		}
		for _, text := range inCode {
			if got, is := impl.ReadCode(text); is || len(got) != 0 {
				t.Errorf("ReadCode(%q) = %v, %v", text, got, is)
			}
		}
	}
}

// All texts of up to four of these bytes, held against the form.
func TestPromise2AllShortTexts(t *testing.T) {
	const letters = "abcdhklnopqtu012359,-+ "
	texts := []string{""}
	for range 4 {
		var longer []string
		for _, s := range texts {
			for _, b := range letters {
				longer = append(longer, s+string(b))
			}
		}
		for _, s := range longer {
			i, is := impl.ReadInsn(s)
			if is != isStep(s) || is && impl.ShowInsn(i) != s || !is && i != (impl.Insn{}) {
				t.Fatalf("ReadInsn(%q) = %v, %v", s, i, is)
			}
			if code, is := impl.ReadCode(s); is != isCodeText(s) || is && impl.ShowCode(code) != s || !is && len(code) != 0 {
				t.Fatalf("ReadCode(%q) = %v, %v", s, code, is)
			}
		}
		texts = longer
	}
}

func TestPromise2Code(t *testing.T) {
	for _, n := range []int{0, 1, 2, 3, 20, 39, 40} {
		for from := range len(stepCases()) {
			code, text := rowOf(n, from)
			if got := impl.ShowCode(code); got != text {
				t.Fatalf("ShowCode(%v) = %q, want %q", code, got, text)
			}
			if got, is := impl.ReadCode(text); !is || !slices.Equal(got, code) {
				t.Fatalf("ReadCode(%q) = %v, %v", text, got, is)
			}
		}
	}
	for _, n := range []int{41, 42, 80, 81, 500} {
		code, text := rowOf(n, 3)
		if got := impl.ShowCode(code); got != "" {
			t.Errorf("ShowCode of %d steps = %q", n, got)
		}
		if got, is := impl.ReadCode(text); is || len(got) != 0 {
			t.Errorf("ReadCode of %d steps = %v, %v", n, got, is)
		}
	}
	if impl.ShowCode(nil) != "" || impl.ShowCode([]impl.Insn{}) != "" {
		t.Error("ShowCode of no steps")
	}
	if got, is := impl.ReadCode(""); !is || len(got) != 0 {
		t.Errorf("ReadCode of nothing = %v, %v", got, is)
	}
}

func TestPromise2Blanks(t *testing.T) {
	_, forty := rowOf(40, 0)
	for _, s := range []string{" ", "  ", " t", "t ", "t t ", " t t", "t  t", "t   t", "t\tt", "t\nt", "t\n", "t,t", "tt", "a1a2", "a1,a2", "a1 ,a2", "t \x00", "o0, 0", "o0 ,0", "q1,2 ,3", forty + " ", " " + forty, strings.Replace(forty, " ", "  ", 1), strings.Repeat(" ", 39), strings.Repeat(" ", 40), strings.Repeat("t ", 40), strings.Repeat(" ", 100000)} {
		if got, is := impl.ReadCode(s); is || len(got) != 0 {
			t.Errorf("ReadCode(%q) = %v, %v", s, got, is)
		}
	}
}

func TestPromise21Steps(t *testing.T) {
	for _, s := range []string{"a" + strings.Repeat("0", 100000), "a" + strings.Repeat("9", 100000), "a-" + strings.Repeat("1", 100000), strings.Repeat(",", 100000), "q" + strings.Repeat("1,", 100000), strings.Repeat("t", 100000), strings.Repeat("\xff", 1000)} {
		if got, is := impl.ReadInsn(s); is || got != (impl.Insn{}) {
			t.Errorf("ReadInsn of %d bytes = %v, %v", len(s), got, is)
		}
		if got, is := impl.ReadCode(s); is || len(got) != 0 {
			t.Errorf("ReadCode of %d bytes = %v, %v", len(s), got, is)
		}
	}
}

func TestPromise21CodeIsNewMemory(t *testing.T) {
	want, text := rowOf(40, 5)
	first, _ := impl.ReadCode(text)
	for k := range first {
		first[k] = impl.Insn{Op: -1, A: -1, B: -1}
	}
	for k := range first[:cap(first)] {
		first[:cap(first)][k] = impl.Insn{Op: -2}
	}
	if second, is := impl.ReadCode(text); !is || !slices.Equal(second, want) {
		t.Errorf("ReadCode again = %v, %v", second, is)
	}
	none, _ := impl.ReadCode("")
	_ = append(none, want...)
	if again, is := impl.ReadCode(""); !is || len(again) != 0 {
		t.Errorf("ReadCode of nothing again = %v, %v", again, is)
	}
}

func TestPromise21CodeStays(t *testing.T) {
	for _, n := range []int{0, 1, 39, 40, 41} {
		whole, _ := rowOf(60, 7)
		kept := slices.Clone(whole)
		impl.ShowCode(whole[:n])
		whole[2] = impl.Insn{Op: 21}
		kept[2] = impl.Insn{Op: 21}
		impl.ShowCode(whole[:n])
		if !slices.Equal(whole, kept) {
			t.Errorf("ShowCode of %d steps wrote into them, or behind them", n)
		}
	}
}
