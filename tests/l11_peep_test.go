package tests

import (
	"fmt"
	"math"
	"regexp"
	"slices"
	"strings"
	"testing"

	"loop.example/g00334/impl"
)

// nothings are the chapter's pairs as they are shown.
var nothings = regexp.MustCompile(`^(a-?\d+ i|b\d i|m i|h i|j j|a0 d|a0 e|a1 f|a1 g|a-?\d+ l\d+)$`)

// peepTold asks all that the chapter asks of a place, from the shown text on.
func peepTold(code []impl.Insn, at int64) ([]impl.Insn, bool) {
	if at < 0 || at > int64(len(code)-3) || slices.Contains(leadersTold(code), at+1) || !nothings.MatchString(impl.ShowCode(code[at:at+2])) {
		return slices.Clone(code), false
	}
	first, behind := at+2, at+2
	if code[at] == (impl.Insn{Op: impl.OpPush}) && code[at+1].Op == impl.OpZero {
		first = code[at+1].A
	}
	jumps := []impl.Insn{{Op: impl.OpJump, A: first}, {Op: impl.OpJump, A: behind}}
	return slices.Concat(code[:at], jumps, code[at+2:]), true
}

func peepsTold(code []impl.Insn) []int64 {
	peeps := []int64{}
	for at := range int64(len(code)) {
		if _, is := peepTold(code, at); is {
			peeps = append(peeps, at)
		}
	}
	return peeps
}

func peepedAllTold(code []impl.Insn) []impl.Insn {
	for at := int64(0); at < int64(len(code)); at++ {
		if peeped, is := peepTold(code, at); is {
			return peepedAllTold(peeped)
		}
	}
	return code
}

// deadTold looks for a way to a load from behind each store.
func deadTold(code []impl.Insn) []int64 {
	dead := []int64{}
	for _, at := range reachedTold(code) {
		wanted := func(next int64) bool { return isWanted(code, int(next), code[at].A, make([]bool, len(code))) }
		if code[at].Op == impl.OpStore && !slices.ContainsFunc(nextsTold(code, int(at)), wanted) {
			dead = append(dead, at)
		}
	}
	return dead
}

func unstoredTold(code []impl.Insn) []impl.Insn {
	unstored := slices.Clone(code)
	for _, at := range deadTold(code) {
		unstored[at] = impl.Insn{Op: impl.OpPop}
	}
	return unstored
}

func checkPeepAt(t *testing.T, code []impl.Insn, at int64) {
	t.Helper()
	want, wantIs := peepTold(code, at)
	if got, is := impl.PeepAt(code, at); !slices.Equal(got, want) || is != wantIs {
		t.Fatalf("PeepAt(%q, %d) = %q, %v, want %q, %v", impl.ShowCode(code), at, impl.ShowCode(got), is, impl.ShowCode(want), wantIs)
	}
}

// checkPeep holds all answers of the chapter for one code against its words told once more.
func checkPeep(t *testing.T, code []impl.Insn) {
	t.Helper()
	text := impl.ShowCode(code)
	for _, at := range placesAround(len(code)) {
		checkPeepAt(t, code, at)
	}
	for name, pair := range map[string][2][]int64{
		"Peeps":      {impl.Peeps(code), peepsTold(code)},
		"DeadStores": {impl.DeadStores(code), deadTold(code)},
	} {
		if !slices.Equal(pair[0], pair[1]) {
			t.Fatalf("%s(%q) = %v, want %v", name, text, pair[0], pair[1])
		}
	}
	for name, pair := range map[string][2][]impl.Insn{
		"PeepedAll": {impl.PeepedAll(code), peepedAllTold(code)},
		"Unstored":  {impl.Unstored(code), unstoredTold(code)},
	} {
		if !slices.Equal(pair[0], pair[1]) {
			t.Fatalf("%s(%q) = %q, want %q", name, text, impl.ShowCode(pair[0]), impl.ShowCode(pair[1]))
		}
	}
	checkNoMore(t, code)
}

// checkNoMore asks whether all that could go is gone at once.
func checkNoMore(t *testing.T, code []impl.Insn) {
	t.Helper()
	text := impl.ShowCode(code)
	peeped := impl.PeepedAll(code)
	if !impl.CodeOk(peeped) || len(impl.Peeps(peeped)) != 0 || !slices.Equal(impl.PeepedAll(peeped), peeped) {
		t.Fatalf("PeepedAll(%q) = %q, which has Peeps %v", text, impl.ShowCode(peeped), impl.Peeps(peeped))
	}
	unstored := impl.Unstored(code)
	if !impl.CodeOk(unstored) || len(impl.DeadStores(unstored)) != 0 || !slices.Equal(impl.Unstored(unstored), unstored) {
		t.Fatalf("Unstored(%q) = %q, which has DeadStores %v", text, impl.ShowCode(unstored), impl.DeadStores(unstored))
	}
}

// A peepCase tells what comes of peeping at one place; an empty text where nothing does.
type peepCase struct {
	text string
	at   int64
	want string
}

func checkPeepCases(t *testing.T, cases []peepCase) {
	t.Helper()
	for _, c := range cases {
		want := c.want
		if want == "" {
			want = c.text
		}
		got, is := impl.PeepAt(codeOf(t, c.text), c.at)
		if impl.ShowCode(got) != want || is != (c.want != "") {
			t.Errorf("PeepAt(%q, %d) = %q, %v, want %q", c.text, c.at, impl.ShowCode(got), is, want)
		}
		checkPeep(t, codeOf(t, c.text))
	}
}

func TestPromise11PeepAtOfEachPair(t *testing.T) {
	checkPeepCases(t, []peepCase{
		{"a3 i t", 0, "k2 k2 t"},
		{"a0 i t", 0, "k2 k2 t"},
		{"a1 i t", 0, "k2 k2 t"},
		{"a-2147483648 i t", 0, "k2 k2 t"},
		{"a2147483647 i t", 0, "k2 k2 t"},
		{"b0 i t", 0, "k2 k2 t"},
		{"b1 i t", 0, "k2 k2 t"},
		{"b7 i t", 0, "k2 k2 t"},
		{"m i t", 0, "k2 k2 t"},
		{"h i t", 0, "k2 k2 t"},
		{"j j t", 0, "k2 k2 t"},
		{"a0 d t", 0, "k2 k2 t"},
		{"a0 e t", 0, "k2 k2 t"},
		{"a1 f t", 0, "k2 k2 t"},
		{"a1 g t", 0, "k2 k2 t"},
		// OpZero goes elsewhere, to what is behind, back to the pair, or ahead of it; only 0 goes along.
		{"a0 l3 s t", 0, "k3 k2 s t"},
		{"a0 l2 s t", 0, "k2 k2 s t"},
		{"a0 l0 s t", 0, "k0 k2 s t"},
		{"s a0 l0 t", 1, "s k0 k3 t"},
		{"s a0 l1 t", 1, "s k1 k3 t"},
		{"a1 l3 s t", 0, "k2 k2 s t"},
		{"a-1 l3 s t", 0, "k2 k2 s t"},
		{"a2 l2 s t", 0, "k2 k2 s t"},
		{"a7 l0 s t", 0, "k2 k2 s t"},
		{"a-2147483648 l3 s t", 0, "k2 k2 s t"},
		{"a2147483647 l3 s t", 0, "k2 k2 s t"},
		// Others stand around them.
		{"s s a3 i s t", 2, "s s k4 k4 s t"},
		{"a3 i a3 i t", 0, "k2 k2 a3 i t"},
		{"a3 i a3 i t", 2, "a3 i k4 k4 t"},
		{"a3 i t", 1, ""},
	})
}

func TestPromise11PeepAtOfWhatOnlyLooksLikeAPair(t *testing.T) {
	for _, pair := range []string{
		"a1 d", "a1 e", "a-1 d", "a0 f", "a0 g", "a2 f", "a-1 f", "a-1 g", "a2 g", "a2 d", "a10 f", "a11 f",
		"c3 i", "c0 i", "d i", "i i", "j i", "n0 i", "o0,0 i", "q0,0 i", "r i", "s i", "p0,0 i",
		"i a3", "i b0", "i m", "i h", "i j", "d a0", "f a1", "h j", "j h", "h h",
		"a0 a0", "a0 b0", "a0 c0", "a0 h", "a0 j", "a1 s", "a0 r", "a0 m", "a0 t", "a0 k3",
		"b0 d", "b1 f", "b0 l3", "b0 c0", "m l3", "h l3", "m d", "h d", "h f", "j d", "j l3", "j f",
		"r l3", "d l3", "m r", "c1 b1", "b1 c1", "k3 i", "l3 i", "t i", "k3 l3", "l3 l3",
	} {
		checkPeepCases(t, []peepCase{{"s " + pair + " s t", 1, ""}, {pair + " s t", 0, ""}})
	}
}

func TestPromise11PeepAtOfLeaders(t *testing.T) {
	for _, pair := range []string{"a3 i", "b1 i", "m i", "h i", "j j", "a0 d", "a0 e", "a1 f", "a1 g", "a0 l4", "a1 l4"} {
		gone := "k2 k2"
		if pair == "a0 l4" {
			gone = "k4 k2"
		}
		checkPeepCases(t, []peepCase{
			{pair + " s s l1 t", 0, ""},
			{pair + " s s k1 t", 0, ""},
			// That jump is not reached: a leader it makes all the same.
			{pair + " s t k1", 0, ""},
			{pair + " s t l1", 0, ""},
			// The first one of the two, or what is behind, may be a leader.
			{pair + " s s l0 t", 0, gone + " s s l0 t"},
			{pair + " s s l2 t", 0, gone + " s s l2 t"},
			{pair + " s t k2", 0, gone + " s t k2"},
			{pair + " s s s t", 0, gone + " s s s t"},
		})
	}
	checkPeepCases(t, []peepCase{
		// OpZero goes to itself.
		{"a0 l1 t", 0, ""},
		{"a1 l1 t", 0, ""},
		// The pair is behind a jump, or OpGive.
		{"k1 a3 i t", 1, "k1 k3 k3 t"},
		{"l1 a3 i t", 1, "l1 k3 k3 t"},
		{"t a3 i t", 1, "t k3 k3 t"},
		{"t a0 l0 t", 1, "t k0 k3 t"},
		{"k2 a3 i t", 1, ""},
		{"l2 a3 i t", 1, ""},
		{"k3 a3 i t", 1, "k3 k3 k3 t"},
	})
}

func TestPromise11PeepAtOfThePlaces(t *testing.T) {
	checkPeepCases(t, []peepCase{
		// Nothing is behind.
		{"a3 i", 0, ""},
		{"j j", 0, ""},
		{"a0 l0", 0, ""},
		{"a1 l0", 0, ""},
		{"s a0 l0", 1, ""},
		{"s s j j", 2, ""},
		{"a3", 0, ""},
		{"j j j", 0, "k2 k2 j"},
		{"j j j", 1, ""},
		// The longest code.
		{"a3 i" + steps(38, "s"), 0, "k2 k2" + steps(38, "s")},
		{"s" + steps(36, "s") + " a3 i t", 37, "s" + steps(36, "s") + " k39 k39 t"},
		{"s" + steps(37, "s") + " a3 i", 38, ""},
		{"a0 l39" + steps(38, "s"), 0, "k39 k2" + steps(38, "s")},
	})
	// There is no such place, however far it is.
	for _, text := range []string{"a3 i t", "j j j j t", "a3 i j j", "a3 i" + steps(19, "j j")} {
		code := codeOf(t, text)
		for _, at := range []int64{-1, -2, -3, -40, math.MinInt64, math.MinInt64 + 1, int64(len(code)), int64(len(code)) + 1, 39, 40, 41, 1 << 32, math.MaxInt64, math.MaxInt64 - 1, math.MaxInt64 - 2} {
			if got, is := impl.PeepAt(code, at); !slices.Equal(got, code) || is {
				t.Errorf("PeepAt(%q, %d) = %q, %v", text, at, impl.ShowCode(got), is)
			}
		}
	}
}

// Each right step with each other one, in the middle of a code, at its beginning and at its end.
func TestPromise11EveryPairOfSteps(t *testing.T) {
	come := map[string]int{}
	cases := append(stepCases(), stepCase{impl.Insn{Op: impl.OpPush, A: 1}, "a1"}, stepCase{impl.Insn{Op: impl.OpPush, A: -1}, "a-1"})
	for _, a := range cases {
		for _, b := range cases {
			filler := slices.Repeat([]impl.Insn{{Op: impl.OpSay}}, 38)
			for _, at := range []int64{0, 20, 37, 38} {
				code := slices.Concat(filler[:at], []impl.Insn{a.insn, b.insn}, filler[at:])
				checkPeepAt(t, code, at)
				if _, is := impl.PeepAt(code, at); is {
					come[a.text[:1]+b.text[:1]]++
				}
			}
		}
	}
	for _, pair := range []string{"ai", "bi", "mi", "hi", "jj", "ad", "ae", "af", "ag", "al"} {
		if come[pair] == 0 {
			t.Errorf("no %s comes to nothing", pair)
		}
	}
	if len(come) != 10 {
		t.Errorf("these come to nothing: %v", come)
	}
}

func TestPromise11Peeps(t *testing.T) {
	rows := map[string]string{
		"t":                         "",
		"s s s t":                   "",
		"a3 i":                      "",
		"a3 i t":                    "0",
		"s a3 i t":                  "1",
		"a3 i s t":                  "0",
		"a3 i a3 i":                 "0",
		"a3 i a3 i t":               "0 2",
		"a3 i s m i s b1 i t":       "0 3 6",
		"h h i i t":                 "1",
		"a3 a3 i i t":               "1",
		"a0 a0 d d t":               "1",
		"a1 a0 d f t":               "1",
		"a3 a0 d i t":               "1",
		"a0 a1 f d a1 a0 e g t":     "1 5",
		"j j t":                     "0",
		"j j j t":                   "0 1",
		"j j j":                     "0",
		"j j j j":                   "0 1",
		"j j j j t":                 "0 1 2",
		"a3 j j j i t":              "1 2",
		"j j j l1 t":                "1",
		"j j j l2 t":                "0",
		"j j j l3 t":                "0 1",
		"a3 i a0 d t k3":            "0",
		"a3 i a0 d t k1":            "2",
		"a1 l4 s a3 i t":            "0",
		"a3 i a1 l1 t":              "2",
		"t a3 i t":                  "1",
		"j" + steps(39, "j"):        risingFrom(0, 38),
		"j" + steps(38, "j") + " t": risingFrom(0, 38),
	}
	checkRows(t, "Peeps", impl.Peeps, rows)
	for text := range rows {
		checkPeep(t, codeOf(t, text))
	}
}

// risingFrom are the numbers from one up to another, which is left out.
func risingFrom(from int, to int) string {
	var numbers []string
	for n := from; n < to; n++ {
		numbers = append(numbers, fmt.Sprint(n))
	}
	return strings.Join(numbers, " ")
}

func TestPromise11PeepedAll(t *testing.T) {
	checkTurned(t, "PeepedAll", impl.PeepedAll, checkPeep, map[string]string{
		"t":                     "t",
		"s a1 d t":              "s a1 d t",
		"a3 i":                  "a3 i",
		"a3 i t":                "k2 k2 t",
		"a3 i a3 i t":           "k2 k2 k4 k4 t",
		"a3 i a3 i":             "k2 k2 a3 i",
		"a3 i s m i s b1 i t":   "k2 k2 s k5 k5 s k8 k8 t",
		"a0 a1 f d a1 a0 e g t": "a0 k3 k3 d a1 k7 k7 g t",
		// The first one comes first; what it shares with the next one is gone.
		"j j j t":     "k2 k2 j t",
		"j j j j t":   "k2 k2 k4 k4 t",
		"j j j j":     "k2 k2 j j",
		"j j j j j t": "k2 k2 k4 k4 j t",
		"j j j l1 t":  "j k3 k3 l1 t",
		"j j j l2 t":  "k2 k2 j l2 t",
		// What stood around the two is not in a row.
		"h h i i t":   "h k3 k3 i t",
		"a3 a3 i i t": "a3 k3 k3 i t",
		"j h i j t":   "j k3 k3 j t",
		"a3 a0 d i t": "a3 k3 k3 i t",
		// A pair comes about where the OpZero that is gone went: behind it, and ahead of it.
		"a1 l4 s a3 i t":                 "k2 k2 s k5 k5 t",
		"a3 i a1 l1 t":                   "k2 k2 k4 k4 t",
		"a3 i s a5 l1 t":                 "k2 k2 s k5 k5 t",
		"a2 l3 b1 i a3 l6 j j t":         "k2 k2 k4 k4 k6 k6 k8 k8 t",
		"a2 l3 b1 i a3 l7 j j t":         "k2 k2 k4 k4 k6 k6 k8 k8 t",
		"m i a2 l1 a3 l3 a4 l5 t":        "k2 k2 k4 k4 k6 k6 k8 k8 t",
		"a1 l8 a1 l10 s s s h i m i t":   "k2 k2 k4 k4 s s s k9 k9 k11 k11 t",
		"a1 l10 s a1 l7 s a3 i s a3 i t": "k2 k2 s k5 k5 s k8 k8 s k11 k11 t",
		"a1 l3 a3 i s a1 l3 t":           "k2 k2 k4 k4 s k7 k7 t",
		"a1 l3 a3 i s b1 l3 t":           "k2 k2 a3 i s b1 l3 t",
		"a1 l3 a3 i s t k3":              "k2 k2 a3 i s t k3",
		"j j j a1 l1 t":                  "j k3 k3 k5 k5 t",
		"j j j a1 l2 t":                  "k2 k2 j k5 k5 t",
		"a1 l3 j j j t":                  "k2 k2 k4 k4 j t",
		"a1 l4 j j j t":                  "k2 k2 k4 k4 j t",
		"a3 i a1 l1 a1 l5 a3 i t":        "k2 k2 k4 k4 a1 l5 k8 k8 t",
		// Of OpPush 0 it goes there as before: no pair comes about.
		"a0 l4 s a3 i t":         "k4 k2 s a3 i t",
		"a3 i a0 l1 t":           "a3 i k1 k4 t",
		"a3 i s a0 l1 t":         "a3 i s k1 k5 t",
		"a1 l4 s a3 i t a0 l4 t": "k2 k2 s a3 i t k4 k8 t",
		"a0 l0 t":                "k0 k2 t",
		"a0 l2 t":                "k2 k2 t",
		"a0 l1 t":                "a0 l1 t",
		// What is not reached goes, too.
		"t a3 i t":  "t k3 k3 t",
		"k3 a3 i t": "k3 k3 k3 t",
	})
}

// Each pair comes about only by the one before: the last one of the code first, the first one last, and the other way round.
func TestPromise11PeepedAllOneBehindTheOther(t *testing.T) {
	for _, back := range []bool{true, false} {
		var code []impl.Insn
		for k := range int64(19) {
			to := 2*k - 1
			if !back {
				to = 2*k + 3
			}
			if to < 0 || to > 37 {
				to = 38
			}
			code = append(code, impl.Insn{Op: impl.OpPush, A: k + 1}, impl.Insn{Op: impl.OpZero, A: to})
		}
		code = append(code, impl.Insn{Op: impl.OpNull}, impl.Insn{Op: impl.OpGive})
		first := int64(0)
		if back {
			first = 36
		}
		if got := impl.Peeps(code); !slices.Equal(got, []int64{first}) {
			t.Fatalf("Peeps(%q) = %v", impl.ShowCode(code), got)
		}
		peeped := impl.PeepedAll(code)
		for at, i := range peeped[:38] {
			if i != (impl.Insn{Op: impl.OpJump, A: int64(at/2*2 + 2)}) {
				t.Fatalf("PeepedAll(%q) = %q", impl.ShowCode(code), impl.ShowCode(peeped))
			}
		}
		checkPeep(t, code)
	}
}

func TestPromise11DeadStores(t *testing.T) {
	rows := map[string]string{
		"t":    "",
		"c1":   "0",
		"c1 t": "0",
		"b1 t": "",
		// It is loaded later, or another one is.
		"a3 c1 b1 t":           "",
		"a3 c1 b2 t":           "1",
		"a3 c1 s s s b1 t":     "",
		"a3 c0 b0 t":           "",
		"a3 c7 b7 t":           "",
		"a3 c7 b6 t":           "1",
		"a3 c1 a4 c2 b1 b2 t":  "",
		"a3 c1 a4 c2 b1 t":     "3",
		"a3 c1 a4 c2 b2 t":     "1",
		"a3 c1 o1,1 p1,1 n1 t": "1",
		"b1 a3 c1 t":           "2",
		// It is stored over first.
		"a3 c1 a4 c1 b1 t":             "1",
		"a3 c1 a4 c1 t":                "1 3",
		"a3 c1 b1 c1 t":                "3",
		"a3 c1 b1 c1 b1 t":             "",
		"a3 a4 c1 c1 b1 t":             "2",
		"a3 c1 s l5 c1 b1 t":           "",
		"a3 c1 b2 l6 a4 c1 a5 c1 b1 t": "1 5",
		// It is loaded on one way alone: behind OpZero, or where that goes.
		"a3 c1 b2 l6 b1 t m t":              "",
		"a3 c1 b2 l6 m t b1 t":              "",
		"a3 c1 b2 l6 m t m t":               "1",
		"a3 c1 b2 l7 a4 c1 s b1 t":          "",
		"a3 c1 b2 l8 a4 c1 b1 t a5 c1 b1 t": "1",
		// OpZero of a word that is known goes both ways all the same.
		"a3 c1 a1 l6 m t b1 t": "",
		"a3 c1 a0 l6 b1 t m t": "",
		// A jump leads to the load, or past it.
		"a3 c1 k4 t b1 t":    "",
		"a3 c1 k4 b1 m t":    "1",
		"a3 c1 k6 b1 t s k3": "",
		"a3 c1 m t b1 t":     "1",
		// It is not reached: no matter what comes of it, nor what is loaded there.
		"t c1":                "",
		"m t a3 c1 t":         "",
		"m t a3 c1 b1 t":      "",
		"k3 a3 c1 m t":        "",
		"a3 c1 m t a3 c1 m t": "1",
		"a3 c1 m t b1 k2":     "1",
		"a3 c1 k5 a4 c1 b1 t": "",
		// In a loop: loaded in the next round, ahead of the store or behind, or never.
		"b1 a3 c1 k0":              "",
		"a3 c1 k0":                 "1",
		"a3 c1 b1 i k0":            "",
		"a3 c1 b2 i k0":            "1",
		"a3 c1 b1 a1 e c1 k2":      "",
		"a3 c1 b1 a1 e c1 b1 l2 t": "",
		"a3 c1 b1 l2 a4 c1 t":      "5",
		"a3 c1 a4 c1 b1 l2 t":      "1",
		"a3 c1 b1 i a4 c1 k0":      "5",
		"a3 c1 b1 i a4 c1 k2":      "",
		"k3 b1 t a3 c1 b2 l1 k3":   "",
		// Nothing comes next.
		"a3 c1":       "1",
		"b1 c1":       "1",
		"a3 c1 a3 c1": "1 3",
		"b1 c1 l0":    "",
		"c1 l1":       "0",
		// All locals, and the longest code.
		"a0 c0 a0 c1 a0 c2 a0 c3 a0 c4 a0 c5 a0 c6 a0 c7 t":    "1 3 5 7 9 11 13 15",
		"a0 c0 a0 c1 a0 c2 a0 c3 a0 c4 a0 c5 a0 c6 a0 c7 b5 t": "1 3 5 7 9 13 15",
		"c1" + steps(38, "c1") + " t":                          risingFrom(0, 39),
		"c1" + steps(38, "c1") + " b1":                         risingFrom(0, 38),
		"c1" + steps(37, "s") + " k39 b1":                      "",
	}
	checkRows(t, "DeadStores", impl.DeadStores, rows)
	// Of all these just the ones told are OpPop, and nothing else is changed.
	unstored := map[string]string{}
	for text, dead := range rows {
		words := strings.Fields(text)
		for _, at := range numbersIn(dead) {
			words[at] = "i"
		}
		unstored[text] = strings.Join(words, " ")
	}
	checkTurned(t, "Unstored", impl.Unstored, checkPeep, unstored)
}

func TestPromise11Unstored(t *testing.T) {
	checkTurned(t, "Unstored", impl.Unstored, checkPeep, map[string]string{
		"t":                    "t",
		"a3 c1 t":              "a3 i t",
		"a3 c1 b1 t":           "a3 c1 b1 t",
		"a3 c1 a4 c1 b1 t":     "a3 i a4 c1 b1 t",
		"a3 c1 a4 c1 t":        "a3 i a4 i t",
		"a3 c1 b2 l6 m t b1 t": "a3 c1 b2 l6 m t b1 t",
		"m t a3 c1 t":          "m t a3 c1 t",
		"a3 c1 k0":             "a3 i k0",
		"b1 a3 c1 k0":          "b1 a3 c1 k0",
		"a3 c1":                "a3 i",
		// The load goes nowhere but into a store that is dead: loaded it is all the same.
		"a3 c1 b1 c2 t": "a3 c1 b1 i t",
		"a3 c1 b1 c1 t": "a3 c1 b1 i t",
	})
}

// peepCodes are the chapter's codes of one code: PeepAt at all places and around them, PeepedAll and Unstored.
func peepCodes(code []impl.Insn) [][]impl.Insn {
	var codes [][]impl.Insn
	for at := int64(-1); at <= int64(len(code)); at++ {
		peeped, _ := impl.PeepAt(code, at)
		codes = append(codes, peeped)
	}
	return append(codes, impl.PeepedAll(code), impl.Unstored(code))
}

// peepRows are the chapter's rows of numbers.
func peepRows(code []impl.Insn) [][]int64 {
	return [][]int64{impl.Peeps(code), impl.DeadStores(code)}
}

func checkNoPeep(t *testing.T, code []impl.Insn) {
	t.Helper()
	for _, at := range []int64{math.MinInt64, -1, 0, 1, 2, 38, 39, 40, 41, math.MaxInt64} {
		if got, is := impl.PeepAt(code, at); len(got) != 0 || is {
			t.Fatalf("PeepAt(%v, %d) = %v, %v", code, at, got, is)
		}
	}
	if a, b := peepRows(code), [][]impl.Insn{impl.PeepedAll(code), impl.Unstored(code)}; len(a[0])+len(a[1])+len(b[0])+len(b[1]) != 0 {
		t.Fatalf("of %v: %v, %v", code, a, b)
	}
}

func TestPromise11NoCode(t *testing.T) {
	for _, code := range noCodes() {
		checkNoPeep(t, code)
	}
	// One step too many, or one wrong step, among many that would go.
	checkNoPeep(t, slices.Repeat(codeOf(t, "a3 i"), 21))
	checkNoPeep(t, slices.Repeat(codeOf(t, "c1"), 41))
	right := codeOf(t, "a3 i a3 c1 j j a0 l8 t")
	for at := range right {
		for _, i := range append(wrongInsns(), impl.Insn{Op: impl.OpZero, A: 9}, impl.Insn{Op: impl.OpJump, A: 9}) {
			wrong := slices.Clone(right)
			wrong[at] = i
			checkNoPeep(t, wrong)
		}
	}
}

func peepMemoryCodes(t *testing.T) [][]impl.Insn {
	codes := memoryCodes(t)
	for _, text := range []string{"a3 i", "a3 i t", "j j j j t", "a0 l0 t", "a1 l4 s a3 i t", "a3 c1 t", "a3 c1 a4 c1 b1 t", "c1" + steps(38, "c1") + " t"} {
		codes = append(codes, codeOf(t, text))
	}
	for seed := range uint64(60) {
		codes = append(codes, drawnPairs(seed, 1+int(seed%40)))
	}
	return codes
}

func TestPromise21PeepAnswersAreNewMemory(t *testing.T) {
	none := [][]impl.Insn{nil, {}, {{Op: 77, A: 77, B: 77}}, make([]impl.Insn, 41)}
	for _, code := range append(peepMemoryCodes(t), none...) {
		checkNewCodes(t, code, peepCodes)
		kept := slices.Clone(code)
		first, second := peepRows(code), peepRows(code)
		want := cloned(first)
		checkNoneShared(t, impl.ShowCode(code), first)
		for _, list := range first {
			spoilList(list[:cap(list)])
			_ = append(list, 77, 78, 79)
		}
		if third := peepRows(code); !slices.EqualFunc(second, want, slices.Equal) || !slices.EqualFunc(third, want, slices.Equal) || !slices.Equal(code, kept) {
			t.Fatalf("of %v: %v, and again %v, want %v", kept, second, third, want)
		}
	}
}

// The code lies in a longer one: what is behind it is neither read nor written. The steps behind would make a pair with its last one, or load what it stores.
func TestPromise21PeepLeavesArguments(t *testing.T) {
	codes := peepMemoryCodes(t)
	for _, text := range []string{"a3", "s a3", "a0", "j", "a3 c1", "s a3 i"} {
		codes = append(codes, codeOf(t, text))
	}
	for _, code := range codes {
		for _, behind := range []string{"i t t t", "j j t t", "d t t t", "l0 t t t", "b1 b1 t t", "k0 k1 k2 l0"} {
			whole := slices.Concat(code, codeOfInsns(behind), make([]impl.Insn, 3))
			kept := slices.Clone(whole)
			inside := whole[:len(code)]
			if a, b := peepRows(inside), peepCodes(inside); !slices.EqualFunc(a, peepRows(code), slices.Equal) || !slices.EqualFunc(b, peepCodes(code), slices.Equal) {
				t.Fatalf("of %v with %q behind: %v, %v", code, behind, a, b)
			}
			if !slices.Equal(whole, kept) {
				t.Fatalf("%v is changed: %v", kept, whole)
			}
		}
	}
}
