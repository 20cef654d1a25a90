package tests

import (
	"math"
	"slices"
	"testing"

	"loop.example/g00334/impl"
)

// endUpTold keeps the whole way, and looks there for each one that comes next: the first one of the way is it where that goes round.
func endUpTold(code []impl.Insn, at int64) int64 {
	if at < 0 || at >= int64(len(code)) {
		return -1
	}
	way := []int64{at}
	for code[at].Op == impl.OpJump {
		at = code[at].A
		if slices.Contains(way, at) {
			return way[0]
		}
		way = append(way, at)
	}
	return at
}

// inRound tells whether one comes to at again by OpJumps alone; what only leads into a round does not.
func inRound(code []impl.Insn, at int64) bool {
	to := at
	for range code {
		if code[to].Op != impl.OpJump {
			return false
		}
		if to = code[to].A; to == at {
			return true
		}
	}
	return false
}

// threadedTold goes through the code twice, as the chapter does.
func threadedTold(code []impl.Insn) []impl.Insn {
	threaded := slices.Clone(code)
	for at, i := range code {
		if goes(i) {
			threaded[at].A = endUpTold(code, i.A)
		}
	}
	for at, i := range threaded {
		if i == (impl.Insn{Op: impl.OpZero, A: int64(at + 1)}) {
			threaded[at] = impl.Insn{Op: impl.OpPop}
		}
	}
	return threaded
}

func staysTold(code []impl.Insn) []int64 {
	return slices.DeleteFunc(reachedTold(code), func(at int64) bool {
		return code[at] == impl.Insn{Op: impl.OpJump, A: at + 1}
	})
}

// sweptTold looks for the place of each that a jump goes to among those that stay.
func sweptTold(code []impl.Insn) []impl.Insn {
	var swept []impl.Insn
	stays := staysTold(code)
	for _, at := range stays {
		i := code[at]
		if goes(i) {
			i.A = int64(slices.IndexFunc(stays, func(n int64) bool { return n >= code[at].A }))
		}
		swept = append(swept, i)
	}
	return swept
}

func tidiedTold(code []impl.Insn) []impl.Insn {
	if next := sweptTold(threadedTold(code)); len(next) < len(code) {
		return tidiedTold(next)
	} else {
		return next
	}
}

// timesFewer is how often it becomes fewer.
func timesFewer(code []impl.Insn) int {
	if next := impl.Swept(impl.Threaded(code)); len(next) < len(code) {
		return 1 + timesFewer(next)
	}
	return 0
}

// checkThread holds all answers of the chapter for one code against its words told once more.
func checkThread(t *testing.T, code []impl.Insn) {
	t.Helper()
	text := impl.ShowCode(code)
	for _, at := range placesAround(len(code)) {
		if got, want := impl.EndUp(code, at), endUpTold(code, at); got != want {
			t.Fatalf("EndUp(%q, %d) = %d, want %d", text, at, got, want)
		}
	}
	if got, want := impl.Stays(code), staysTold(code); !slices.Equal(got, want) {
		t.Fatalf("Stays(%q) = %v, want %v", text, got, want)
	}
	for name, pair := range map[string][2][]impl.Insn{
		"Threaded": {impl.Threaded(code), threadedTold(code)},
		"Swept":    {impl.Swept(code), sweptTold(code)},
		"Tidied":   {impl.Tidied(code), tidiedTold(code)},
	} {
		if !slices.Equal(pair[0], pair[1]) {
			t.Fatalf("%s(%q) = %q, want %q", name, text, impl.ShowCode(pair[0]), impl.ShowCode(pair[1]))
		}
		if !impl.CodeOk(pair[0]) || len(pair[0]) > len(code) {
			t.Fatalf("%s(%q) = %q, which is no code, or more", name, text, impl.ShowCode(pair[0]))
		}
	}
	checkTidy(t, code)
}

// checkTidy asks whether anything is left to do.
func checkTidy(t *testing.T, code []impl.Insn) {
	t.Helper()
	text, tidied := impl.ShowCode(code), impl.Tidied(code)
	for name, again := range map[string][]impl.Insn{"Threaded": impl.Threaded(tidied), "Swept": impl.Swept(tidied), "Tidied": impl.Tidied(tidied)} {
		if !slices.Equal(again, tidied) {
			t.Fatalf("Tidied(%q) = %q, which %s is %q", text, impl.ShowCode(tidied), name, impl.ShowCode(again))
		}
	}
	if len(impl.Stays(tidied)) != len(tidied) {
		t.Fatalf("Tidied(%q) = %q, of which only %v stay", text, impl.ShowCode(tidied), impl.Stays(tidied))
	}
	for at, i := range tidied {
		if goes(i) && (i.A == int64(at+1) || impl.EndUp(tidied, i.A) != i.A) {
			t.Fatalf("Tidied(%q) = %q, where %d does not go to where it ends up", text, impl.ShowCode(tidied), at)
		}
	}
}

// An endCase tells where one ends up from each place of a code.
type endCase struct {
	text string
	want string
}

func checkEnds(t *testing.T, cases []endCase) {
	t.Helper()
	for _, c := range cases {
		code := codeOf(t, c.text)
		for at, want := range numbersIn(c.want) {
			if got := impl.EndUp(code, int64(at)); got != want {
				t.Errorf("EndUp(%q, %d) = %d, want %d", c.text, at, got, want)
			}
		}
		if len(numbersIn(c.want)) != len(code) {
			t.Errorf("of %q not all are told", c.text)
		}
		checkThread(t, code)
	}
}

func TestPromise12EndUp(t *testing.T) {
	checkEnds(t, []endCase{
		// None is OpJump.
		{"t", "0"},
		{"s d t", "0 1 2"},
		{"l0", "0"},
		{"l1 t", "0 1"},
		{"l2 l0 l1 t", "0 1 2 3"},
		// One is, on, back, and to the next one.
		{"k1 t", "1 1"},
		{"k2 s t", "2 1 2"},
		{"s k0 t", "0 0 2"},
		{"s s k1", "0 1 1"},
		{"s k3 s t", "0 3 2 3"},
		// A chain, in a row, back, and across.
		{"k1 k2 k3 t", "3 3 3 3"},
		{"s k0 k1 k2", "0 0 0 0"},
		{"k2 t k4 t k1", "1 1 1 3 1"},
		{"k3 k0 t k2 k1", "2 2 2 2 2"},
		// OpZero ends it, wherever that goes.
		{"k1 l2 k3 t", "1 1 3 3"},
		{"k1 l0 t", "1 1 2"},
		{"k1 l1 t", "1 1 2"},
		{"l1 k2 l3 t", "0 2 2 3"},
		// Two chains meet.
		{"k2 k3 k4 k4 t", "4 4 4 4 4"},
	})
}

func TestPromise12EndUpWhereItGoesRound(t *testing.T) {
	checkEnds(t, []endCase{
		// To itself.
		{"k0", "0"},
		{"s k1", "0 1"},
		{"s k1 k2 t", "0 1 2 3"},
		// Several: each of them comes to itself again.
		{"k1 k0", "0 1"},
		{"k1 k2 k0", "0 1 2"},
		{"k2 k0 k1", "0 1 2"},
		{"k2 s k4 s k0", "0 1 2 3 4"},
		// Two rounds beside each other.
		{"k1 k0 k3 k2", "0 1 2 3"},
		{"k2 k3 k0 k1 t", "0 1 2 3 4"},
	})
}

// What leads into a round comes to itself, too, though it is not in it.
func TestPromise21EndUpOfWhatLeadsIntoARound(t *testing.T) {
	checkEnds(t, []endCase{
		// A round of one, on and back.
		{"k1 k1", "0 1"},
		{"k0 k0", "0 1"},
		{"k2 s k2", "0 1 2"},
		{"k0 s k0 t", "0 1 2 3"},
		{"k1 k1 k1 k1", "0 1 2 3"},
		// The same, through several.
		{"k1 k2 k2 t", "0 1 2 3"},
		{"k0 k0 k1", "0 1 2"},
		{"k1 k2 k3 k4 k4", "0 1 2 3 4"},
		{"k0 k0 k1 k2 k3", "0 1 2 3 4"},
		{"k3 k4 k2 k1 k2", "0 1 2 3 4"},
		// A round of several, come into at each of them.
		{"k1 k2 k1", "0 1 2"},
		{"k2 k2 k1", "0 1 2"},
		{"k1 k2 k3 k1", "0 1 2 3"},
		{"k2 k2 k3 k1", "0 1 2 3"},
		{"k3 k2 k3 k1", "0 1 2 3"},
		{"k1 k0 k0 k1", "0 1 2 3"},
		// The same, through several.
		{"k1 k2 k3 k2", "0 1 2 3"},
		{"k3 k0 k1 k4 k5 k3", "0 1 2 3 4 5"},
		{"k1 k2 k3 k1 k3", "0 1 2 3 4"},
		{"k1 k2 k3 k1 k3 k4 k2 k6", "0 1 2 3 4 5 6 7"},
		{"k2 s k4 s k6 s k4", "0 1 2 3 4 5 6"},
		// Two rounds beside each other, and a way that ends beside one.
		{"k1 k0 k3 k2 k0 k3", "0 1 2 3 4 5"},
		{"k1 k1 k4 k5 k5 t", "0 1 5 5 5 5"},
		{"k3 k4 k0 t k4 k1", "3 1 3 3 4 5"},
		// OpZero is no way into a round: one ends up at it.
		{"k1 l2 k2", "1 1 2"},
		{"k1 l3 k1 k3", "1 1 1 3"},
	})
}

// A round of each size is at the end of the longest code, and all ahead of it lead in one row into it, at each of its places.
func TestPromise21EndUpOfTheLongestWaysIntoARound(t *testing.T) {
	for start := range int64(40) {
		for into := start; into < 40; into++ {
			var code []impl.Insn
			for at := range int64(40) {
				code = append(code, impl.Insn{Op: impl.OpJump, A: at + 1})
			}
			code[39].A = start
			if start > 0 {
				code[start-1].A = into
			}
			for at := range int64(40) {
				if got := impl.EndUp(code, at); got != at || inRound(code, at) != (at >= start) {
					t.Fatalf("EndUp(%q, %d) = %d, want %d", impl.ShowCode(code), at, got, at)
				}
			}
			checkThread(t, code)
		}
	}
}

// All steps but one are OpJumps, to the next one, to the one ahead, or round.
func TestPromise12EndUpOfTheLongestWays(t *testing.T) {
	var on, back, round []impl.Insn
	for at := range int64(40) {
		on = append(on, impl.Insn{Op: impl.OpJump, A: at + 1})
		back = append(back, impl.Insn{Op: impl.OpJump, A: at - 1})
		round = append(round, impl.Insn{Op: impl.OpJump, A: (at + 27) % 40})
	}
	on[39], back[0] = impl.Insn{Op: impl.OpGive}, impl.Insn{Op: impl.OpGive}
	for at := range int64(40) {
		if a, b, c := impl.EndUp(on, at), impl.EndUp(back, at), impl.EndUp(round, at); a != 39 || b != 0 || c != at {
			t.Errorf("from %d: %d, %d, %d", at, a, b, c)
		}
	}
	// Now most lead into lesser rounds, one of them of one alone.
	round[5].A = 6
	round[33].A = 33
	for _, code := range [][]impl.Insn{on, back, round} {
		checkThread(t, code)
	}
}

func TestPromise12EndUpOfEachOp(t *testing.T) {
	for _, c := range stepCases() {
		if goes(c.insn) {
			continue
		}
		code := []impl.Insn{{Op: impl.OpJump, A: 2}, c.insn, c.insn, {Op: impl.OpJump, A: 1}, c.insn}
		for at, want := range []int64{2, 1, 2, 1, 4} {
			if got := impl.EndUp(code, int64(at)); got != want {
				t.Errorf("EndUp with %q from %d = %d, want %d", c.text, at, got, want)
			}
		}
		checkThread(t, code)
	}
}

func TestPromise12EndUpOfNoPlace(t *testing.T) {
	for _, text := range []string{"t", "k0", "k1 t", "s k0 t", "k1 k0", "t" + steps(39, "k0"), "k39" + steps(39, "t")} {
		code := codeOf(t, text)
		for _, at := range []int64{-1, -2, -40, -1 << 32, math.MinInt64, int64(len(code)), int64(len(code)) + 1, 40, 41, 1 << 32, 1<<32 + 1, math.MaxInt64} {
			if got := impl.EndUp(code, at); got != -1 {
				t.Errorf("EndUp(%q, %d) = %d, want -1", text, at, got)
			}
		}
	}
}

func TestPromise12Threaded(t *testing.T) {
	checkTurned(t, "Threaded", impl.Threaded, checkThread, map[string]string{
		// There is no jump, or none goes to an OpJump.
		"t":          "t",
		"s d a3 t":   "s d a3 t",
		"k1 t":       "k1 t",
		"k2 s t":     "k2 s t",
		"s s l0 t":   "s s l0 t",
		"s l1 t":     "s l1 t",
		"s l3 s t":   "s l3 s t",
		"l2 l0 l0":   "l2 l0 l0",
		"s l3 s l0":  "s l3 s l0",
		"a1 b1 c1 t": "a1 b1 c1 t",
		// To one, on and back.
		"k2 t k1":      "k1 t k1",
		"k2 s k3 t":    "k3 s k3 t",
		"l2 s k3 t":    "l3 s k3 t",
		"s l3 t k0":    "s l0 t k0",
		"s k2 s l1 t":  "s k2 s l2 t",
		"k1 k3 s t":    "k3 k3 s t",
		"k1 l0 s t":    "k1 l1 s t",
		"l3 l3 s k0 t": "l0 l0 s k0 t",
		// To a chain.
		"l3 s t k4 k5 k2":     "l2 s t k2 k2 k2",
		"k3 s t k4 k5 k2":     "k2 s t k2 k2 k2",
		"k1 k2 k3 t":          "k3 k3 k3 t",
		"s k0 k1 k2":          "s k0 k0 k0",
		"s l5 t k0 k3 k4":     "s l0 t k0 k0 k0",
		"k2 k2 b1 l5 k6 k6 t": "k2 k2 b1 l6 k6 k6 t",
		// To a round, of one and of several.
		"k0":          "k0",
		"l1 k1 t":     "i k1 t",
		"l2 t k2":     "l2 t k2",
		"k2 t k2":     "k2 t k2",
		"l2 t k3 k2":  "l2 t k3 k2",
		"l3 t k3 k2":  "l3 t k3 k2",
		"k1 k2 k1":    "k1 k2 k1",
		"k1 k2 k3 k1": "k1 k2 k3 k1",
		// It is not reached.
		"t k3 s k5 s t": "t k5 s k5 s t",
		"t l3 s k5 s t": "t l5 s k5 s t",
		// The longest code.
		"l38" + steps(37, "s") + " k39 t":      "l39" + steps(37, "s") + " k39 t",
		"s" + steps(37, "s") + " k0 l38":       "s" + steps(37, "s") + " k0 l0",
		"k39" + steps(38, "k39") + " k1":       "k39" + steps(38, "k39") + " k1",
		"l39" + steps(38, "s") + " k38":        "l38" + steps(38, "s") + " k38",
		"l38" + steps(37, "s") + " k39 k39":    "l38" + steps(37, "s") + " k39 k39",
		"k1 k2 k3" + steps(36, "k39") + " k39": "k1 k2 k3" + steps(36, "k39") + " k39",
		"l39 t" + steps(37, "s") + " k1":       "i t" + steps(37, "s") + " k1",
		"s" + steps(37, "s") + " l39 t":        "s" + steps(37, "s") + " i t",
		"k1 k2 k3" + steps(36, "k39") + " t":   "k39 k39 k39" + steps(36, "k39") + " t",
	})
}

// A jump to what leads into a round stays; one by OpJumps that end up elsewhere, beside it, does not.
func TestPromise21ThreadedOfWhatLeadsIntoARound(t *testing.T) {
	checkTurned(t, "Threaded", impl.Threaded, checkThread, map[string]string{
		// A round of one, by one and by several.
		"k1 k1":             "k1 k1",
		"k1 k2 k2":          "k1 k2 k2",
		"l2 t k3 k3":        "l2 t k3 k3",
		"l2 t k3 k4 k4":     "l2 t k3 k4 k4",
		"s l4 t k3 k3":      "s l4 t k3 k3",
		"k0 k0 k1 l2":       "k0 k0 k1 l2",
		"a0 l3 k4 k5 m k5":  "a0 l3 k4 k5 m k5",
		"a0 l5 k4 k3 m k3":  "a0 l5 k4 k3 m k3",
		"k1 k2 k3 k4 k5 k5": "k1 k2 k3 k4 k5 k5",
		// A round of several, at each of them, by one and by several.
		"l4 t k3 k2 k2":    "l4 t k3 k2 k2",
		"l4 t k3 k2 k3":    "l4 t k3 k2 k3",
		"k4 t k3 k2 k2":    "k4 t k3 k2 k2",
		"l4 t k3 k2 k5 k3": "l4 t k3 k2 k5 k3",
		"k4 t k3 k2 k5 k3": "k4 t k3 k2 k5 k3",
		"k1 k2 k3 k2":      "k1 k2 k3 k2",
		// OpZero to the next one, which leads into a round, behind it or ahead of it.
		"l1 k2 k2":    "i k2 k2",
		"l1 k2 k3 k3": "i k2 k3 k3",
		"l1 k2 k3 k2": "i k2 k3 k2",
		"k0 l2 k0":    "k0 i k0",
		// It goes to another one that leads to the next one: that is not where it ends up.
		"l2 k1 k1":    "l2 k1 k1",
		"l3 k2 k1 k1": "l3 k2 k1 k1",
		"l3 k2 k1 k2": "l3 k2 k1 k2",
		// Others are threaded beside it.
		"l3 l4 t k3 k5 k2":    "l3 i t k3 k2 k2",
		"k1 k1 l4 t k5 k3":    "k1 k1 i t k3 k3",
		"l2 t k3 k3 k5 k1 l4": "l2 t k3 k3 k1 k1 l1",
		"k1 l3 t k4 k4 k0":    "k1 l3 t k4 k4 k1",
		// It is not reached.
		"t k2 k2":      "t k2 k2",
		"t l2 k3 k3":   "t i k3 k3",
		"t l3 t k4 k4": "t l3 t k4 k4",
	})
}

func TestPromise12ThreadedOfOpZeroToTheNextOne(t *testing.T) {
	checkTurned(t, "Threaded", impl.Threaded, checkThread, map[string]string{
		"l1 t":       "i t",
		"s l2 t":     "s i t",
		"l1 l2 l3 t": "i i i t",
		"l1 l2 l0 t": "i i l0 t",
		"t l2 t":     "t i t",
		// It goes there only behind the threading, on, back, by a chain.
		"l2 t k1":       "i t k1",
		"s l4 s t k2":   "s i s t k2",
		"k2 s l4 t k3":  "k2 s i t k3",
		"l3 s t k4 k1":  "i s t k1 k1",
		"s s k4 l2 s t": "s s k4 i s t",
		"t l4 s t k2":   "t i s t k2",
		"l2 l3 k1 k2":   "i l1 k1 k1",
		// It goes there only ahead of the threading.
		"l1 k3 s t": "l3 k3 s t",
		"l1 k0":     "l0 k0",
		"s l2 k0 t": "s l0 k0 t",
		// The next one is OpJump, of a round: there it ends up.
		"l1 k1":    "i k1",
		"l1 k2 k1": "i k2 k1",
		"l2 k2 k1": "l2 k2 k1",
		// An OpJump to the next one stays what it is.
		"k1 t":    "k1 t",
		"k2 t k1": "k1 t k1",
		// It goes to itself, or to the one behind the next one.
		"l0 t":   "l0 t",
		"l2 s t": "l2 s t",
	})
}

func TestPromise12Stays(t *testing.T) {
	rows := map[string]string{
		"t":     "0",
		"s":     "0",
		"s d t": "0 1 2",
		"s d d": "0 1 2",
		// An OpJump to the next one, and several.
		"k1 t":           "1",
		"s k2 t":         "0 2",
		"k1 k2 t":        "2",
		"k1 s k3 s k5 t": "1 3 5",
		"k1 k2 k3 k0":    "3",
		"k1 k0":          "1",
		// Elsewhere.
		"k0":       "0",
		"s k1":     "0 1",
		"s k0":     "0 1",
		"k2 s t":   "0 2",
		"k2 k2 t":  "0 2",
		"k2 k0 k1": "0 1 2",
		// OpZero to the next one, or elsewhere.
		"l1 t":    "0 1",
		"l0 t":    "0 1",
		"l2 s t":  "0 1 2",
		"l2 k2 t": "0 2",
		"l1 k2 t": "0 2",
		// Some are not reached, and would not stay anyway, or would.
		"t s s":          "0",
		"t k2 t":         "0",
		"k3 s k3 t":      "0 3",
		"k3 s l2 t":      "0 3",
		"s t k0 k2":      "0 1",
		"k2 k1 t":        "0 2",
		"k2 t k4 t t k1": "0 2 4",
		// A jump back leads to an OpJump to the next one.
		"l3 k2 t k1":    "0 2 3",
		"k3 k2 t k1":    "0 2 3",
		"k4 k2 k3 t k1": "0 3 4",
		// The longest code.
		"s" + steps(39, "s"):              risingFrom(0, 40),
		"k39" + steps(38, "s") + " t":     "0 39",
		"k38" + steps(37, "s") + " k39 t": "0 39",
	}
	checkRows(t, "Stays", impl.Stays, rows)
	for text := range rows {
		checkThread(t, codeOf(t, text))
	}
}

func TestPromise12Swept(t *testing.T) {
	checkTurned(t, "Swept", impl.Swept, checkThread, map[string]string{
		"t":        "t",
		"s d t":    "s d t",
		"s d d":    "s d d",
		"k0":       "k0",
		"l0 t":     "l0 t",
		"l1 t":     "l1 t",
		"l2 s t":   "l2 s t",
		"s s l0 t": "s s l0 t",
		// An OpJump to the next one goes, and several.
		"k1 t":           "t",
		"s k2 t":         "s t",
		"k1 k2 k3 t":     "t",
		"k1 s k3 s k5 t": "s s t",
		// What is not reached goes.
		"t s s":         "t",
		"t k0":          "t",
		"k2 s t":        "k1 t",
		"k4 s s s a3 t": "k1 a3 t",
		"s t a3 l0 k2":  "s t",
		"k3 k2 k1 t":    "k1 t",
		"l3 k4 s s t t": "l2 k3 s t",
		// A jump goes to what does not stay, or to one behind which none stays for a while.
		"l2 s k3 t":              "l2 s t",
		"l2 s k3 k4 k5 t":        "l2 s t",
		"l3 s s k4 k5 s t":       "l3 s s s t",
		"l2 k2 t":                "l1 t",
		"l2 k2 k3 k4 s t":        "l1 s t",
		"k3 s s k4 k5 t":         "k1 t",
		"l3 s t k4 k5 k7 s k8 t": "l3 s t k4 t",
		// Backwards: to what stays, to what doesn't, past what is gone.
		"s k2 s l0 t":               "s s l0 t",
		"s k2 s l1 t":               "s s l1 t",
		"k1 s l0 t":                 "s l0 t",
		"k1 k2 k3 s l1 t":           "s l0 t",
		"k1 k2 k3 s l0 t":           "s l0 t",
		"s k3 s s l0 t":             "s k2 s l0 t",
		"s k4 s t s s k2":           "s k4 s t s s k2",
		"s k4 k5 s s s l2 t":        "s k3 k4 s s l2 t",
		"k1 s k3 s k5 s l0 l2 l4 t": "s s s l0 l1 l2 t",
		// Round.
		"k1 k0":       "k0",
		"k1 k2 k3 k0": "k0",
		"k2 s k0":     "k1 k0",
		"k1 k1":       "k0",
		"k2 k2 k1":    "k1 k1",
		// The longest code.
		"k39" + steps(38, "s") + " t":       "k1 t",
		"k1" + steps(38, "s") + " t":        "s" + steps(37, "s") + " t",
		"k1" + steps(37, "s") + " l0 t":     "s" + steps(36, "s") + " l0 t",
		"l39 k2 k3" + steps(36, "s") + " t": "l37" + steps(36, "s") + " t",
		"l38" + steps(37, "s") + " k39 t":   "l38" + steps(37, "s") + " t",
		"s" + steps(37, "s") + " l39 t":     "s" + steps(37, "s") + " l39 t",
		"t" + steps(39, "s"):                "t",
	})
}

// What stands there is the same, but for where jumps go to.
func TestPromise12SweptKeepsEachStep(t *testing.T) {
	for _, c := range stepCases() {
		if goes(c.insn) || c.insn.Op == impl.OpGive {
			continue
		}
		give := impl.Insn{Op: impl.OpGive}
		jump := impl.Insn{Op: impl.OpJump, A: 2}
		code := []impl.Insn{c.insn, jump, c.insn, give, c.insn, c.insn}
		want := []impl.Insn{c.insn, c.insn, give}
		if got := impl.Swept(code); !slices.Equal(got, want) {
			t.Errorf("Swept with %q = %q", c.text, impl.ShowCode(got))
		}
		if got := impl.Tidied(code); !slices.Equal(got, want) {
			t.Errorf("Tidied with %q = %q", c.text, impl.ShowCode(got))
		}
		if got := impl.Threaded(code); !slices.Equal(got, code) {
			t.Errorf("Threaded with %q = %q", c.text, impl.ShowCode(got))
		}
	}
}

func TestPromise12Tidied(t *testing.T) {
	checkTurned(t, "Tidied", impl.Tidied, checkThread, map[string]string{
		"t":        "t",
		"s d t":    "s d t",
		"s s l0 t": "s s l0 t",
		"l2 s t":   "l2 s t",
		"s k0":     "s k0",
		"k0":       "k0",
		"l0 t":     "l0 t",
		// It becomes fewer once, or only other.
		"k1 t":        "t",
		"k1 k2 t":     "t",
		"l1 t":        "i t",
		"l2 t k1":     "i t",
		"s l3 t k0":   "s l0 t",
		"l3 s t k4 t": "l3 s t t",
		"t s s":       "t",
		"k1 k0":       "k0",
		// Twice: what stood between is gone first.
		"k2 s t":           "t",
		"k3 k2 k1 t":       "t",
		"l2 k2 t":          "i t",
		"s k4 s t s t":     "s s t",
		"s k3 s s l0 t":    "s s l0 t",
		"k2 s k0":          "k0",
		"k2 k2 k1":         "k0",
		"k4 s t s k1":      "s t",
		"k2 s k4 s k6 s t": "t",
		// More than twice.
		"l2 k3 k1 t":                     "i t",
		"k3 k3 s k1":                     "k0",
		"k2 k2 b1 l5 k6 k6 a7 s k9 a1 t": "b1 i a7 s a1 t",
		// Jumps that pass something stay.
		"l4 s k5 t s t":          "l3 s k4 s t",
		"s k4 s t s s k2":        "s k4 s t s s k2",
		"b1 l4 a1 k5 a2 s t":     "b1 l4 a1 k5 a2 s t",
		"b1 l6 a1 s k8 s a2 s t": "b1 l5 a1 s k7 a2 s t",
		// The longest code.
		"k39" + steps(38, "s") + " t":         "t",
		"k38" + steps(37, "k39") + " k1 t":    "t",
		"k2 s k4 s" + steps(34, "s") + " s t": "s" + steps(34, "s") + " t",
		"l38" + steps(37, "s") + " k39 t":     "l38" + steps(37, "s") + " t",
		"l38 k39" + steps(36, "s") + " k39 t": "i t",
		"s" + steps(38, "s") + " k0":          "s" + steps(38, "s") + " k0",
	})
}

// What leads into a round goes only where it is not reached, or goes to the next one.
func TestPromise21TidiedOfWhatLeadsIntoARound(t *testing.T) {
	checkTurned(t, "Tidied", impl.Tidied, checkThread, map[string]string{
		// A round of one, by one and by several.
		"a0 l3 k4 k5 m k5":          "a0 l3 k4 k5 m k5",
		"a0 l5 k4 k3 m k3":          "a0 l5 k4 k3 m k3",
		"a0 l3 t k5 s k5":           "a0 l3 t k3",
		"a0 l4 a1 t k6 s k6":        "a0 l4 a1 t k4",
		"a0 l6 k4 k3 m k3 k5":       "a0 l6 k4 k3 m k3 k5",
		"a0 l4 s k3 k6 t k3":        "a0 l4 s k3 k3",
		"a0 l4 s k3 k6 t k5":        "a0 l4 s k3 t",
		"a0 l3 a1 t k7 k4 m m k7 s": "a0 l3 a1 t",
		// A round of several, at each of them.
		"a0 l6 k4 k5 m k3 k3":    "a0 l6 k4 k5 m k3 k3",
		"a0 l6 k4 k5 m k3 k5":    "a0 l6 k4 k5 m k3 k5",
		"a0 l7 k4 k5 m k3 k5 k6": "a0 l7 k4 k5 m k3 k5 k6",
		// It becomes one of one.
		"a0 l6 a1 t k5 k4 k4": "a0 l5 a1 t k4 k4",
		"a0 l6 a1 t k5 k4 k5": "a0 l5 a1 t k4 k4",
		// All goes to the next one, or what is between is not reached.
		"k1 k1":          "k0",
		"k1 k2 k2":       "k0",
		"k1 k2 k3 k2":    "k0",
		"k1 k2 k3 k4 k4": "k0",
		"k2 s k4 s k4":   "k0",
		"k3 s k3 k3":     "k0",
		"s k3 s k3":      "s k1",
		// It is not reached.
		"t k2 k2":       "t",
		"s t k3 k4 k3":  "s t",
		"a1 t l4 k4 k4": "a1 t",
		// The longest code.
		"l38" + steps(37, "s") + " k39 k39":    "l38" + steps(37, "s") + " k38",
		"k1 k2 k3" + steps(36, "k39") + " k39": "k0",
	})
}

// How often each of them becomes fewer.
func TestPromise12TidiedMoreThanOnce(t *testing.T) {
	for text, times := range map[string]int{
		"t":          0,
		"l1 t":       0,
		"k1 t":       1,
		"k2 s t":     2,
		"l2 k3 k1 t": 2,
		"k3 k3 s k1": 3,
	} {
		if got := timesFewer(codeOf(t, text)); got != times {
			t.Errorf("%q becomes fewer %d times, want %d", text, got, times)
		}
	}
}

// threadCodes are the chapter's codes of one code.
func threadCodes(code []impl.Insn) [][]impl.Insn {
	return [][]impl.Insn{impl.Threaded(code), impl.Swept(code), impl.Tidied(code)}
}

func checkNoThread(t *testing.T, code []impl.Insn) {
	t.Helper()
	for _, at := range []int64{math.MinInt64, -1, 0, 1, 2, 38, 39, 40, 41, math.MaxInt64} {
		if got := impl.EndUp(code, at); got != -1 {
			t.Fatalf("EndUp(%v, %d) = %d, want -1", code, at, got)
		}
	}
	if a, b := impl.Stays(code), threadCodes(code); len(a)+len(b[0])+len(b[1])+len(b[2]) != 0 {
		t.Fatalf("of %v: %v, %v", code, a, b)
	}
}

func TestPromise12NoCode(t *testing.T) {
	for _, code := range noCodes() {
		checkNoThread(t, code)
	}
	// One step too many, or one wrong step, reached or not, among many that would go.
	checkNoThread(t, append(slices.Repeat(codeOf(t, "k0"), 40), impl.Insn{Op: impl.OpGive}))
	checkNoThread(t, slices.Repeat(codeOf(t, "t"), 41))
	right := codeOf(t, "k2 s l4 t k6 s t k1 l2")
	for at := range right {
		for _, i := range append(wrongInsns(), impl.Insn{Op: impl.OpZero, A: 9}, impl.Insn{Op: impl.OpJump, A: 9}, impl.Insn{Op: impl.OpJump, A: 39}, impl.Insn{Op: impl.OpJump, A: -1}) {
			wrong := slices.Clone(right)
			wrong[at] = i
			checkNoThread(t, wrong)
		}
	}
}

func threadMemoryCodes(t *testing.T) [][]impl.Insn {
	codes := peepMemoryCodes(t)
	for _, text := range []string{"k1 t", "k1 k0", "k2 s t", "l1 t", "l2 t k1", "s s l0 t", "k3 k3 s k1", "k2 k2 b1 l5 k6 k6 a7 s k9 a1 t", "k39" + steps(38, "s") + " t"} {
		codes = append(codes, codeOf(t, text))
	}
	for seed := range uint64(80) {
		codes = append(codes, drawnTurns(seed, 1+int(seed%40)))
	}
	return codes
}

func TestPromise21ThreadAnswersAreNewMemory(t *testing.T) {
	none := [][]impl.Insn{nil, {}, {{Op: 77, A: 77, B: 77}}, make([]impl.Insn, 41)}
	for _, code := range append(threadMemoryCodes(t), none...) {
		checkNewCodes(t, code, threadCodes)
		kept := slices.Clone(code)
		first, second := impl.Stays(code), impl.Stays(code)
		want := slices.Clone(first)
		spoilList(first[:cap(first)])
		_ = append(first, 77, 78, 79)
		if third := impl.Stays(code); !slices.Equal(second, want) || !slices.Equal(third, want) || !slices.Equal(code, kept) {
			t.Fatalf("Stays(%v) = %v, and again %v, want %v", kept, second, third, want)
		}
	}
}

// The code lies in a longer one: what is behind it is neither read nor written.
func TestPromise21ThreadLeavesArguments(t *testing.T) {
	codes := threadMemoryCodes(t)
	for _, text := range []string{"s", "s l0", "k1 k0", "s l1", "s k1 s"} {
		codes = append(codes, codeOf(t, text))
	}
	for _, code := range codes {
		for _, behind := range []string{"t t t t", "k0 k1 k2 l0", "k39 k39 k39 k39", "l0 t t t"} {
			whole := slices.Concat(code, codeOfInsns(behind), make([]impl.Insn, 3))
			kept := slices.Clone(whole)
			inside := whole[:len(code)]
			if a, b := impl.Stays(inside), threadCodes(inside); !slices.Equal(a, impl.Stays(code)) || !slices.EqualFunc(b, threadCodes(code), slices.Equal) {
				t.Fatalf("of %v with %q behind: %v, %v", code, behind, a, b)
			}
			for at := int64(-1); at < int64(len(whole)); at++ {
				if got, want := impl.EndUp(inside, at), impl.EndUp(code, at); got != want {
					t.Fatalf("EndUp(%v, %d) with %q behind = %d, want %d", code, at, behind, got, want)
				}
			}
			if !slices.Equal(whole, kept) {
				t.Fatalf("%v is changed: %v", kept, whole)
			}
		}
	}
}
