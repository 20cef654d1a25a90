package tests

import (
	"fmt"
	"math"
	"slices"
	"strings"
	"testing"

	"loop.example/g00334/impl"
)

// numbersIn reads a row of numbers that a test wrote.
func numbersIn(text string) []int64 {
	numbers := []int64{}
	for _, word := range strings.Fields(text) {
		var n int64
		fmt.Sscan(word, &n)
		numbers = append(numbers, n)
	}
	return numbers
}

// turns is true where the next one does not simply come next.
func turns(i impl.Insn) bool { return goes(i) || i.Op == impl.OpGive }

// nextsTold are the ways of nextsBy that go to a step, rising.
func nextsTold(code []impl.Insn, at int) []int64 {
	nexts := []int64{}
	for n := range code {
		if slices.Contains(nextsBy(code, at), n) {
			nexts = append(nexts, int64(n))
		}
	}
	return nexts
}

// comesTo says of all pairs whether a way goes from one to the other, with or without steps between.
func comesTo(code []impl.Insn) [][]bool {
	from := make([][]bool, len(code))
	for at := range from {
		from[at] = make([]bool, len(code))
		from[at][at] = true
		for _, next := range nextsTold(code, at) {
			from[at][next] = true
		}
	}
	for by := range from {
		for at := range from {
			for to := range from {
				from[at][to] = from[at][to] || from[at][by] && from[by][to]
			}
		}
	}
	return from
}

func reachedTold(code []impl.Insn) []int64 {
	reached := []int64{}
	for to, is := range comesTo(code)[0] {
		if is {
			reached = append(reached, int64(to))
		}
	}
	return reached
}

// isWanted looks for a way from at to a load of the local that comes by no store of it.
func isWanted(code []impl.Insn, at int, local int64, seen []bool) bool {
	i := code[at]
	if seen[at] || i.Op == impl.OpStore && i.A == local {
		return false
	}
	seen[at] = true
	if i.Op == impl.OpLoad && i.A == local {
		return true
	}
	return slices.ContainsFunc(nextsTold(code, at), func(next int64) bool { return isWanted(code, int(next), local, seen) })
}

func liveTold(code []impl.Insn) []int64 {
	live := make([]int64, len(code))
	for at := range code {
		for local, worth := int64(0), int64(1); local < 8; local, worth = local+1, worth*2 {
			if isWanted(code, at, local, make([]bool, len(code))) {
				live[at] += worth
			}
		}
	}
	return live
}

func leadersTold(code []impl.Insn) []int64 {
	leaders := []int64{}
	for n := range code {
		gone := slices.ContainsFunc(code, func(i impl.Insn) bool { return goes(i) && i.A == int64(n) })
		if n == 0 || gone || turns(code[n-1]) {
			leaders = append(leaders, int64(n))
		}
	}
	return leaders
}

// straightTold asks both of the chapter's questions.
func straightTold(code []impl.Insn, from int64, to int64) bool {
	size := int64(len(code))
	if from < 0 || to < from || to >= size {
		return false
	}
	for n := from; n <= to; n++ {
		if n > from && slices.Contains(leadersTold(code), n) || n < to && turns(code[n]) {
			return false
		}
	}
	return true
}

// placesAround are all numbers of a code, and some that are none of it.
func placesAround(n int) []int64 {
	places := []int64{math.MinInt64, -1 << 32, -40, -2, -1}
	for k := range n + 3 {
		places = append(places, int64(k))
	}
	return append(places, 39, 40, 41, 1<<32, 1<<32+1, math.MaxInt64)
}

// checkFlow holds all answers of the chapter for one code against its words told once more.
func checkFlow(t *testing.T, code []impl.Insn) {
	t.Helper()
	text := impl.ShowCode(code)
	for _, at := range placesAround(len(code)) {
		want := []int64{}
		if at >= 0 && at < int64(len(code)) {
			want = nextsTold(code, int(at))
		}
		if got := impl.Nexts(code, at); !slices.Equal(got, want) {
			t.Fatalf("Nexts(%q, %d) = %v, want %v", text, at, got, want)
		}
	}
	for name, pair := range map[string][2][]int64{
		"Reached": {impl.Reached(code), reachedTold(code)},
		"LiveIn":  {impl.LiveIn(code), liveTold(code)},
		"Leaders": {impl.Leaders(code), leadersTold(code)},
	} {
		if !slices.Equal(pair[0], pair[1]) {
			t.Fatalf("%s(%q) = %v, want %v", name, text, pair[0], pair[1])
		}
	}
}

func checkStraight(t *testing.T, code []impl.Insn) {
	t.Helper()
	for _, from := range placesAround(len(code)) {
		for _, to := range placesAround(len(code)) {
			if got, want := impl.Straight(code, from, to), straightTold(code, from, to); got != want {
				t.Fatalf("Straight(%q, %d, %d) = %v, want %v", impl.ShowCode(code), from, to, got, want)
			}
		}
	}
}

// Each Op alone, in the middle and at the end: only jumps and OpGive turn.
func TestPromise9NextsOfEachOp(t *testing.T) {
	for _, c := range stepCases() {
		if goes(c.insn) {
			continue
		}
		code := []impl.Insn{c.insn, c.insn, c.insn}
		want := [][]int64{{1}, {2}, {}}
		if c.insn.Op == impl.OpGive {
			want = [][]int64{{}, {}, {}}
		}
		for at := range code {
			if got := impl.Nexts(code, int64(at)); !slices.Equal(got, want[at]) {
				t.Errorf("Nexts of %q at %d = %v, want %v", c.text, at, got, want[at])
			}
		}
		if got := impl.Nexts([]impl.Insn{c.insn}, 0); len(got) != 0 {
			t.Errorf("Nexts of %q alone = %v", c.text, got)
		}
	}
}

func TestPromise9NextsOfJumps(t *testing.T) {
	for _, c := range []struct {
		text string
		at   int64
		want string
	}{
		{"d l3 d t", 1, "2 3"},
		{"d l2 d t", 1, "2"},
		{"d l1 d t", 1, "1 2"},
		{"d l0 d t", 1, "0 2"},
		{"l0", 0, "0"},
		{"l1 t", 0, "1"},
		{"l0 t", 0, "0 1"},
		{"d d d l0", 3, "0"},
		{"d d d l2", 3, "2"},
		{"d d d l3", 3, "3"},
		{"d k3 d t", 1, "3"},
		{"d k2 d t", 1, "2"},
		{"d k1 d t", 1, "1"},
		{"d k0 d t", 1, "0"},
		{"k0", 0, "0"},
		{"d d k0", 2, "0"},
		{"d d k2", 2, "2"},
		{"d d t", 2, ""},
		{"d t d", 1, ""},
		{"d t d", 2, ""},
		{"d t d", 0, "1"},
		{"l39" + steps(39, "d"), 0, "1 39"},
		{"d" + steps(38, "d") + " l0", 39, "0"},
		{"d" + steps(38, "d") + " l0", 38, "39"},
		{"d" + steps(39, "d"), 39, ""},
		{"d l3 d t", -1, ""},
		{"d l3 d t", 4, ""},
		{"d l3 d t", 5, ""},
		{"d l3 d t", math.MinInt64, ""},
		{"d l3 d t", math.MaxInt64, ""},
		{"d l3 d t", 1<<32 + 1, ""},
		{"d" + steps(39, "d"), 40, ""},
		{"d" + steps(39, "d"), -1, ""},
	} {
		if got := impl.Nexts(codeOf(t, c.text), c.at); !slices.Equal(got, numbersIn(c.want)) {
			t.Errorf("Nexts(%q, %d) = %v, want %s", c.text, c.at, got, c.want)
		}
	}
}

// checkRows asks for one row of numbers of each code that a test wrote.
func checkRows(t *testing.T, name string, answer func([]impl.Insn) []int64, rows map[string]string) {
	t.Helper()
	for text, want := range rows {
		if got := answer(codeOf(t, text)); !slices.Equal(got, numbersIn(want)) {
			t.Errorf("%s(%q) = %v, want %s", name, text, got, want)
		}
	}
}

func TestPromise9Reached(t *testing.T) {
	checkRows(t, "Reached", impl.Reached, map[string]string{
		"t":                           "0",
		"d":                           "0",
		"d d d t":                     "0 1 2 3",
		"t d d t":                     "0",
		"t k0":                        "0",
		"k0 t":                        "0",
		"l0 t":                        "0 1",
		"d t d d t":                   "0 1",
		"k2 d t":                      "0 2",
		"k3 d d t d":                  "0 3",
		"d l4 d t d t d":              "0 1 2 3 4 5",
		"k4 d d t d k1":               "0 1 2 3 4 5",
		"k5 d d t t d k1":             "0 1 2 3 5 6",
		"d k0 t":                      "0 1",
		"d l0 t d":                    "0 1 2",
		"k3 k2 t k1 t":                "0 1 2 3",
		"k4 t t t k3 t":               "0 3 4",
		"d t k0 k2":                   "0 1",
		"k6 k0 k1 k2 k3 k4 k5 t":      "0 1 2 3 4 5 6",
		"l3 l3 l3 t d":                "0 1 2 3",
		"b1 l4 a1 k0 b2 t s":          "0 1 2 3 4 5",
		"k39" + steps(38, "t") + " d": "0 39",
	})
	// Each comes to the one ahead of it: all are reached from the last one on.
	back := []impl.Insn{{Op: impl.OpJump, A: 39}, {Op: impl.OpGive}}
	for at := int64(2); at < 40; at++ {
		back = append(back, impl.Insn{Op: impl.OpJump, A: at - 1})
	}
	if got := impl.Reached(back); len(got) != 40 || got[39] != 39 || got[1] != 1 {
		t.Errorf("Reached back = %v", got)
	}
}

func TestPromise9LiveIn(t *testing.T) {
	checkRows(t, "LiveIn", impl.LiveIn, map[string]string{
		"t":                         "0",
		"b0":                        "1",
		"b7":                        "128",
		"c0":                        "0",
		"b3 t":                      "8 0",
		"d b3 t":                    "8 8 0",
		"b3 c3 b3 t":                "8 0 8 0",
		"c3 b3 t":                   "0 8 0",
		"c3 c3 b3 t":                "0 0 8 0",
		"b3 c3 t":                   "8 0 0",
		"b1 c2 b2 b1 t":             "2 2 6 2 0",
		"t b1 t":                    "0 2 0",
		"b1 l4 a1 k0 b2 t s":        "6 6 6 6 4 0 0",
		"d l3 b1 b2 t":              "6 6 6 4 0",
		"d l4 b1 t b2 t":            "6 6 2 0 4 0",
		"d l4 c1 k5 d b1 t":         "2 2 0 2 2 2 0",
		"d l4 c1 k5 c1 b1 t":        "0 0 0 2 0 2 0",
		"b1 c1 l0 b2 t":             "6 4 6 4 0",
		"c1 d l1 b1 t":              "0 2 2 2 0",
		"c1 d l0 b1 t":              "0 2 2 2 0",
		"k2 b1 d t":                 "0 2 0 0",
		"b5 k0":                     "32 32",
		"k0 b5":                     "0 32",
		"c5 k0 b5":                  "0 0 32",
		"b0 b1 b2 b3 b4 b5 b6 b7 t": "255 254 252 248 240 224 192 128 0",
		"c0 c1 c2 c3 c4 c5 c6 c7 b0 b1 b2 b3 b4 b5 b6 b7": "0 1 3 7 15 31 63 127 255 254 252 248 240 224 192 128",
	})
}

// What other Ops tell as A is no local, whatever number it is.
func TestPromise9OnlyLoadsAndStoresTell(t *testing.T) {
	for local := range int64(8) {
		for _, c := range stepCases() {
			if turns(c.insn) || c.insn.Op == impl.OpStore || c.insn.Op == impl.OpLoad {
				continue
			}
			code := []impl.Insn{c.insn, {Op: impl.OpLoad, A: local}, c.insn, {Op: impl.OpStore, A: local}, c.insn, {Op: impl.OpGive}}
			live := int64(1) << local
			if got := impl.LiveIn(code); !slices.Equal(got, []int64{live, live, 0, 0, 0, 0}) {
				t.Errorf("LiveIn with %q, local %d = %v", c.text, local, got)
			}
		}
		for other := range int64(8) {
			code := []impl.Insn{{Op: impl.OpStore, A: other}, {Op: impl.OpLoad, A: local}}
			want := int64(1) << local
			if other == local {
				want = 0
			}
			if got := impl.LiveIn(code); !slices.Equal(got, []int64{want, 1 << local}) {
				t.Errorf("LiveIn of a store of %d and a load of %d = %v", other, local, got)
			}
		}
	}
}

// A load behind the longest loop there is, and one that is come to by jumping back from step to step.
func TestPromise9LiveInOfLongCode(t *testing.T) {
	code := codeOf(t, "d"+steps(37, "d")+" l0 b6")
	want := slices.Repeat([]int64{64}, 40)
	if got := impl.LiveIn(code); !slices.Equal(got, want) {
		t.Errorf("LiveIn of a loop = %v", got)
	}
	code[20] = impl.Insn{Op: impl.OpStore, A: 6}
	copy(want, make([]int64, 21))
	if got := impl.LiveIn(code); !slices.Equal(got, want) {
		t.Errorf("LiveIn of a loop with a store = %v", got)
	}
	back := []impl.Insn{{Op: impl.OpJump, A: 39}, {Op: impl.OpLoad, A: 2}}
	for at := int64(2); at < 40; at++ {
		back = append(back, impl.Insn{Op: impl.OpJump, A: at - 1})
	}
	if got := impl.LiveIn(back); !slices.Equal(got, slices.Repeat([]int64{4}, 40)) {
		t.Errorf("LiveIn back = %v", got)
	}
}

func TestPromise9Leaders(t *testing.T) {
	checkRows(t, "Leaders", impl.Leaders, map[string]string{
		"t":                             "0",
		"d":                             "0",
		"d d d d":                       "0",
		"d d d t":                       "0",
		"d t d t":                       "0 2",
		"t t t":                         "0 1 2",
		"k0":                            "0",
		"l0":                            "0",
		"d d k0":                        "0",
		"d d l0":                        "0",
		"d d l0 d":                      "0 3",
		"d d k0 d":                      "0 3",
		"d k4 d d t":                    "0 2 4",
		"d l4 d d t":                    "0 2 4",
		"d k2 d d t":                    "0 2",
		"d l2 d d t":                    "0 2",
		"d d k2 d":                      "0 2 3",
		"d d d l1":                      "0 1",
		"d d d l3":                      "0 3",
		"k3 d d d k3":                   "0 1 3",
		"d d k1 d d l1 d":               "0 1 3 6",
		"t d k1":                        "0 1",
		"b1 l4 a1 k0 b2 t s":            "0 2 4 6",
		"a3 b3 c3 n3 o3,3 p3,3 q3,3 r":  "0",
		"k39" + steps(38, "d") + " t":   "0 1 39",
		"d" + steps(38, "d") + " k39":   "0 39",
		"d" + steps(38, "d") + " l0":    "0",
		"d" + steps(38, "d") + " t":     "0",
		"d" + steps(37, "d") + " t d":   "0 39",
		"d" + steps(37, "d") + " l38 d": "0 38 39",
	})
}

func TestPromise9Straight(t *testing.T) {
	// Leaders are 0, 3 (gone to), 6 (behind a jump), 8 (behind OpGive).
	const text = "d d d d d l3 d t d d"
	runs := [][2]int64{{0, 2}, {3, 5}, {6, 7}, {8, 9}}
	code := codeOf(t, text)
	for from := int64(-1); from < 12; from++ {
		for to := int64(-1); to < 12; to++ {
			want := slices.ContainsFunc(runs, func(r [2]int64) bool { return r[0] <= from && from <= to && to <= r[1] })
			if got := impl.Straight(code, from, to); got != want {
				t.Errorf("Straight(%q, %d, %d) = %v", text, from, to, got)
			}
		}
	}
	for _, c := range []struct {
		text     string
		from, to int64
		want     bool
	}{
		{"t", 0, 0, true},
		{"k0", 0, 0, true},
		{"l0", 0, 0, true},
		{"k0", 0, 1, false},
		{"k0", -1, 0, false},
		{"k0", 1, 1, false},
		{"k1 t", 0, 1, false},
		{"l1 t", 0, 1, false},
		{"t t", 0, 1, false},
		{"d t", 0, 1, true},
		{"d t", 1, 0, false},
		{"d k1", 0, 1, false},
		{"d k0", 0, 1, true},
		{"d l0", 0, 1, true},
		{"d d k1 d", 1, 2, true},
		{"d d k1 d", 0, 1, false},
		{"d d k1 d", 2, 3, false},
		{"d" + steps(39, "d"), 0, 39, true},
		{"d" + steps(38, "d") + " k0", 0, 39, true},
		{"d" + steps(38, "d") + " t", 0, 39, true},
		{"d" + steps(39, "d"), 0, 40, false},
		{"d" + steps(39, "d"), 39, 39, true},
		{"d" + steps(39, "d"), 40, 40, false},
		{"d" + steps(39, "d"), 39, 38, false},
		{"d" + steps(39, "d"), math.MinInt64, 39, false},
		{"d" + steps(39, "d"), 0, math.MaxInt64, false},
		{"d" + steps(39, "d"), math.MaxInt64, math.MinInt64, false},
		{"d" + steps(39, "d"), math.MaxInt64, math.MaxInt64, false},
		{"d" + steps(39, "d"), 1 << 32, 1<<32 + 1, false},
	} {
		if got := impl.Straight(codeOf(t, c.text), c.from, c.to); got != c.want {
			t.Errorf("Straight(%q, %d, %d) = %v", c.text, c.from, c.to, got)
		}
	}
}

// noCodes are what the chapter has one fixed answer for.
func noCodes() [][]impl.Insn {
	give := impl.Insn{Op: impl.OpGive}
	none := [][]impl.Insn{nil, {}, slices.Repeat([]impl.Insn{give}, 41), slices.Repeat([]impl.Insn{{Op: impl.OpLoad}}, 41), make([]impl.Insn, 1), make([]impl.Insn, 40), make([]impl.Insn, 1000)}
	for _, i := range wrongInsns() {
		none = append(none, []impl.Insn{i}, []impl.Insn{i, give}, []impl.Insn{give, i}, []impl.Insn{give, i, give})
	}
	for _, op := range []int64{impl.OpJump, impl.OpZero} {
		for _, n := range []int{1, 2, 39} {
			code := slices.Repeat([]impl.Insn{give}, n)
			for at := range code {
				wrong := slices.Clone(code)
				wrong[at] = impl.Insn{Op: op, A: int64(n)}
				none = append(none, wrong)
			}
		}
	}
	return none
}

func TestPromise9NoCode(t *testing.T) {
	for _, code := range noCodes() {
		if impl.CodeOk(code) {
			t.Fatalf("%v is a code", code)
		}
		for _, at := range []int64{math.MinInt64, -1, 0, 1, 2, 38, 39, 40, 41, math.MaxInt64} {
			if got := impl.Nexts(code, at); len(got) != 0 {
				t.Errorf("Nexts(%v, %d) = %v", code, at, got)
			}
			for _, to := range []int64{math.MinInt64, -1, 0, 1, 2, 38, 39, 40, 41, math.MaxInt64} {
				if impl.Straight(code, at, to) {
					t.Errorf("Straight(%v, %d, %d) = true", code, at, to)
				}
			}
		}
		if a, b, c := impl.Reached(code), impl.LiveIn(code), impl.Leaders(code); len(a)+len(b)+len(c) != 0 {
			t.Errorf("Reached, LiveIn, Leaders of %v = %v, %v, %v", code, a, b, c)
		}
	}
}

// flowAnswers are all lists of the chapter's answers for one code.
func flowAnswers(code []impl.Insn) [][]int64 {
	answers := [][]int64{impl.Reached(code), impl.LiveIn(code), impl.Leaders(code)}
	for at := int64(-1); at <= int64(len(code)); at++ {
		answers = append(answers, impl.Nexts(code, at))
	}
	return answers
}

func cloned(lists [][]int64) [][]int64 {
	var copies [][]int64
	for _, list := range lists {
		copies = append(copies, slices.Clone(list))
	}
	return copies
}

func TestPromise21FlowAnswersAreNewMemory(t *testing.T) {
	for _, text := range []string{"t", "l0", "b1 l4 a1 k0 b2 t s", "d d d d d l3 d t d d", "c1 d l0 b1 t", "d" + steps(37, "d") + " l0 b6"} {
		code := codeOf(t, text)
		kept := slices.Clone(code)
		first := flowAnswers(code)
		want := cloned(first)
		checkNoneShared(t, text, first)
		for _, list := range first {
			spoilList(list[:cap(list)])
			_ = append(list, 77, 78, 79)
		}
		if !slices.Equal(code, kept) {
			t.Errorf("%q is changed: %v", text, code)
		}
		if again := flowAnswers(code); !slices.EqualFunc(again, want, slices.Equal) {
			t.Errorf("of %q again: %v, want %v", text, again, want)
		}
	}
	for _, code := range [][]impl.Insn{nil, {}, {{Op: 99}}} {
		for _, list := range flowAnswers(code) {
			_ = append(list, 5, 6, 7)
			spoilList(list[:cap(list)])
		}
		if again := flowAnswers(code); slices.ContainsFunc(again, func(list []int64) bool { return len(list) != 0 }) {
			t.Errorf("of %v again: %v", code, again)
		}
	}
}

// The code lies in a longer one: what is behind it is neither read nor written.
func TestPromise21FlowLeavesArguments(t *testing.T) {
	for seed := range uint64(60) {
		n := 1 + int(seed%39)
		code := drawnWays(seed, n)
		for _, behind := range []impl.Insn{{Op: impl.OpGive}, {Op: impl.OpLoad, A: 3}, {Op: impl.OpJump, A: 0}, {Op: 99, A: 99, B: 99}} {
			whole := slices.Concat(code, slices.Repeat([]impl.Insn{behind}, 50))
			kept := slices.Clone(whole)
			if got, want := flowAnswers(whole[:n]), flowAnswers(code); !slices.EqualFunc(got, want, slices.Equal) {
				t.Fatalf("with %v behind: %v, want %v", behind, got, want)
			}
			impl.Straight(whole[:n], 0, int64(n-1))
			if !slices.Equal(whole, kept) {
				t.Fatalf("%v is changed: %v", kept, whole)
			}
		}
	}
}
