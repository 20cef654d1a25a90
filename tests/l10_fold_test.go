package tests

import (
	"fmt"
	"math/big"
	"slices"
	"strings"
	"testing"

	"loop.example/g00334/impl"
)

// wayState is where one way has come to, with what it has in the locals.
type wayState struct {
	at     int
	locals [8]int64
}

func nothingKnown() (locals [8]int64) {
	for local := range locals {
		locals[local] = impl.Unknown
	}
	return locals
}

// storedTold is what a way has in a local behind OpStore.
func storedTold(code []impl.Insn, at int, locals [8]int64) int64 {
	if slices.Contains(leadersTold(code), int64(at)) {
		return impl.Unknown
	}
	switch ahead := code[at-1]; ahead.Op {
	case impl.OpPush:
		return ahead.A
	case impl.OpLoad:
		return locals[ahead.A]
	}
	return impl.Unknown
}

// knownTold goes each way for itself, and asks only at the very end where all of them agree.
func knownTold(code []impl.Insn) [][]int64 {
	todo := []wayState{{0, nothingKnown()}}
	seen := map[wayState]bool{todo[0]: true}
	all := make([][][8]int64, len(code))
	for len(todo) > 0 {
		s := todo[0]
		todo = todo[1:]
		all[s.at] = append(all[s.at], s.locals)
		if i := code[s.at]; i.Op == impl.OpStore {
			s.locals[i.A] = storedTold(code, s.at, s.locals)
		}
		for _, next := range nextsTold(code, s.at) {
			if come := (wayState{int(next), s.locals}); !seen[come] {
				seen[come] = true
				todo = append(todo, come)
			}
		}
	}
	return agreed(all)
}

func agreed(all [][][8]int64) [][]int64 {
	var rows [][]int64
	for _, ways := range all {
		row := nothingKnown()
		if len(ways) > 0 {
			row = ways[0]
		}
		for _, way := range ways {
			for local := range row {
				if row[local] != way[local] {
					row[local] = impl.Unknown
				}
			}
		}
		rows = append(rows, slices.Clone(row[:]))
	}
	return rows
}

// loadedTold wants what is known of the code.
func loadedTold(code []impl.Insn, known [][]int64) []impl.Insn {
	loaded := slices.Clone(code)
	for at, i := range code {
		if i.Op == impl.OpLoad && known[at][i.A] != impl.Unknown {
			loaded[at] = impl.Insn{Op: impl.OpPush, A: known[at][i.A]}
		}
	}
	return loaded
}

// comesOut works with numbers of any size, and wraps at the end.
func comesOut(op int64, a int64, b int64) (int64, bool) {
	x, y := big.NewInt(a), big.NewInt(b)
	switch op {
	case impl.OpAdd:
		return wrapped(x.Add(x, y)), true
	case impl.OpSub:
		return wrapped(x.Sub(x, y)), true
	case impl.OpMul:
		return wrapped(x.Mul(x, y)), true
	case impl.OpDiv:
		if b != 0 {
			return wrapped(x.Quo(x, y)), true
		}
	}
	return 0, false
}

// threes are all places at which three can be folded.
func threes(code []impl.Insn) []int {
	var places []int
	leaders := leadersTold(code)
	for at := 0; at+3 < len(code); at++ {
		_, is := comesOut(code[at+2].Op, code[at].A, code[at+1].A)
		led := slices.Contains(leaders, int64(at+1)) || slices.Contains(leaders, int64(at+2))
		if code[at].Op == impl.OpPush && code[at+1].Op == impl.OpPush && is && !led {
			places = append(places, at)
		}
	}
	return places
}

// foldedAt folds the threes at just these places.
func foldedAt(code []impl.Insn, places []int) []impl.Insn {
	folded := slices.Clone(code)
	for _, at := range places {
		word, _ := comesOut(code[at+2].Op, code[at].A, code[at+1].A)
		folded[at] = impl.Insn{Op: impl.OpPush, A: word}
		for k := 1; k < 3; k++ {
			folded[at+k] = impl.Insn{Op: impl.OpJump, A: int64(at + 3)}
		}
	}
	return folded
}

func foldedTold(code []impl.Insn) []impl.Insn {
	places := threes(code)
	return foldedAt(code, places[:min(1, len(places))])
}

// foldedAllTold folds all of what is loaded at once: two threes have no step in common, and a jump behind one goes at most to where the next one begins.
func foldedAllTold(loaded []impl.Insn) []impl.Insn {
	return foldedAt(loaded, threes(loaded))
}

// checkFold holds all answers of the chapter for one code against its words told once more.
func checkFold(t *testing.T, code []impl.Insn) {
	t.Helper()
	text := impl.ShowCode(code)
	known := knownTold(code)
	if got := impl.Known(code); !slices.EqualFunc(got, known, slices.Equal) {
		t.Fatalf("Known(%q) = %v, want %v", text, got, known)
	}
	loaded := loadedTold(code, known)
	for name, pair := range map[string][2][]impl.Insn{
		"Loaded":    {impl.Loaded(code), loaded},
		"Folded":    {impl.Folded(code), foldedTold(code)},
		"FoldedAll": {impl.FoldedAll(code), foldedAllTold(loaded)},
	} {
		if !slices.Equal(pair[0], pair[1]) {
			t.Fatalf("%s(%q) = %q, want %q", name, text, impl.ShowCode(pair[0]), impl.ShowCode(pair[1]))
		}
	}
	all := impl.FoldedAll(code)
	if !impl.CodeOk(all) || !slices.Equal(impl.Folded(all), all) || !slices.Equal(impl.Loaded(all), all) || !slices.Equal(impl.FoldedAll(all), all) {
		t.Fatalf("FoldedAll(%q) = %q, of which more can be folded: %q", text, impl.ShowCode(all), impl.ShowCode(impl.FoldedAll(all)))
	}
}

// A knownCase tells of some locals what is known ahead of each step, with ? where nothing is; of all others nothing is.
type knownCase struct {
	text string
	want map[int]string
}

func checkKnown(t *testing.T, cases []knownCase) {
	t.Helper()
	for _, c := range cases {
		code := codeOf(t, c.text)
		known := impl.Known(code)
		if len(known) != len(code) {
			t.Errorf("Known(%q) = %v", c.text, known)
			continue
		}
		for local := range 8 {
			want := strings.Fields(c.want[local])
			if len(want) == 0 {
				want = slices.Repeat([]string{"?"}, len(code))
			}
			for at := range code {
				word := fmt.Sprint(known[at][local])
				if known[at][local] == impl.Unknown {
					word = "?"
				}
				if len(known[at]) != 8 || len(want) != len(code) || word != want[at] {
					t.Errorf("Known(%q) = %v, of local %d want %v", c.text, known, local, want)
					break
				}
			}
		}
		checkFold(t, code)
	}
}

func TestPromise10Unknown(t *testing.T) {
	if impl.Unknown != 1<<40 || impl.WordOk(impl.Unknown) {
		t.Error("Unknown is not as told")
	}
}

func TestPromise10KnownBehindStores(t *testing.T) {
	checkKnown(t, []knownCase{
		{"t", nil},
		{"a3 t", nil},
		{"a3 c1 t", map[int]string{1: "? ? 3"}},
		{"a3 c1 d t", map[int]string{1: "? ? 3 3"}},
		{"a3 c0 t", map[int]string{0: "? ? 3"}},
		{"a0 c1 t", map[int]string{1: "? ? 0"}},
		{"a-2147483648 c1 a2147483647 c2 t", map[int]string{1: "? ? -2147483648 -2147483648 -2147483648", 2: "? ? ? ? 2147483647"}},
		{"a3 c1 a4 c1 t", map[int]string{1: "? ? 3 3 4"}},
		{"a3 c1 a3 c1 t", map[int]string{1: "? ? 3 3 3"}},
		// The Insn ahead loads what is known, or what isn't.
		{"a3 c1 b1 c2 t", map[int]string{1: "? ? 3 3 3", 2: "? ? ? ? 3"}},
		{"a3 c1 b1 c1 t", map[int]string{1: "? ? 3 3 3"}},
		{"a3 c1 b2 c1 t", map[int]string{1: "? ? 3 3 ?"}},
		{"a3 c1 b1 c2 b2 c3 a4 c1 t", map[int]string{1: "? ? 3 3 3 3 3 3 4", 2: "? ? ? ? 3 3 3 3 3", 3: "? ? ? ? ? ? 3 3 3"}},
		{"b1 c2 t", nil},
		{"b1 c1 t", nil},
		// It is neither: what was pushed may be a word, but is not told.
		{"a3 c1 a4 h c1 t", map[int]string{1: "? ? 3 3 3 ?"}},
		{"a3 c1 a4 a5 d c1 t", map[int]string{1: "? ? 3 3 3 3 ?"}},
		{"a3 c1 a4 a5 i c1 t", map[int]string{1: "? ? 3 3 3 3 ?"}},
		{"a3 c1 a4 a5 j c1 t", map[int]string{1: "? ? 3 3 3 3 ?"}},
		{"a3 c1 n3 c1 t", map[int]string{1: "? ? 3 3 ?"}},
		{"a3 c1 m c1 t", map[int]string{1: "? ? 3 3 ?"}},
		{"a3 c1 o3,3 c1 t", map[int]string{1: "? ? 3 3 ?"}},
		{"a3 c1 q3,3 c1 t", map[int]string{1: "? ? 3 3 ?"}},
		{"a3 c1 r c1 t", map[int]string{1: "? ? 3 3 ?"}},
		{"a3 c1 s c1 t", map[int]string{1: "? ? 3 3 ?"}},
		{"a4 a3 c1 c1 t", map[int]string{1: "? ? ? 3 ?"}},
		{"a4 a3 c1 c2 t", map[int]string{1: "? ? ? 3 3"}},
		// What other Ops tell as A is no local.
		{"a3 c1 p1,1 o1,1 n1 q1,1 a1 t", map[int]string{1: "? ? 3 3 3 3 3 3"}},
	})
}

func TestPromise10KnownBehindLeaders(t *testing.T) {
	checkKnown(t, []knownCase{
		{"c1 t", nil},
		{"c1 c1 t", nil},
		{"a3 k2 c1 t", nil},
		{"a3 l2 c1 t", nil},
		{"a3 t c1 d", nil},
		{"a3 c1 b1 l1 t", nil},
		{"a3 c1 a0 l1 t", nil},
		{"a3 c1 a0 l0 t", map[int]string{1: "? ? 3 3 3"}},
		// The jump to the store is not reached: a leader it is all the same.
		{"a3 c1 t k1", nil},
		{"a3 c1 t l1", nil},
		{"a4 c1 b1 c2 t k3", map[int]string{1: "? ? 4 4 4 ?"}},
		// Its push is the leader: that does not matter.
		{"k1 a3 c1 t", map[int]string{1: "? ? ? 3"}},
		{"a4 c1 b1 c2 t k2", map[int]string{1: "? ? 4 4 4 ?", 2: "? ? ? ? 4 ?"}},
		// What the leader stores is not known; what the others have is.
		{"a3 c1 a4 l4 c2 b1 t", map[int]string{1: "? ? 3 3 3 3 3"}},
		{"a3 c1 a4 k4 c1 b1 t", map[int]string{1: "? ? 3 3 3 ? ?"}},
	})
}

func TestPromise10KnownWhereWaysMeet(t *testing.T) {
	checkKnown(t, []knownCase{
		// Both ways store the same word, or two.
		{"a1 l5 a3 c1 k7 a3 c1 t", map[int]string{1: "? ? ? ? 3 ? ? 3"}},
		{"a1 l5 a3 c1 k7 a4 c1 t", map[int]string{1: "? ? ? ? 3 ? ? ?"}},
		{"a1 l5 a4 c1 k7 a3 c1 t", map[int]string{1: "? ? ? ? 4 ? ? ?"}},
		// One of them stores, behind what was known ahead.
		{"a3 c1 a1 l6 a3 c1 t", map[int]string{1: "? ? 3 3 3 3 3"}},
		{"a3 c1 a1 l6 a4 c1 t", map[int]string{1: "? ? 3 3 3 3 ?"}},
		{"a3 c1 a1 l6 h c1 t", map[int]string{1: "? ? 3 3 3 3 ?"}},
		// One of them has nothing.
		{"a1 l4 a3 c1 t", nil},
		{"a3 c1 b1 l5 d t", map[int]string{1: "? ? 3 3 3 3"}},
		// Another local takes the word from two ways that don't agree, and from one alone.
		{"a3 c1 b2 l6 a4 c1 b1 c2 t", map[int]string{1: "? ? 3 3 3 3 ? ? ?"}},
		{"a3 c1 b1 c2 b3 l8 a4 c1 b2 t", map[int]string{1: "? ? 3 3 3 3 3 3 ? ?", 2: "? ? ? ? 3 3 3 3 3 3"}},
		// The two ways swap words.
		{"a3 c1 a4 c2 b3 l10 b1 c2 a4 c1 d t", map[int]string{1: "? ? 3 3 3 3 3 3 3 3 ? ?", 2: "? ? ? ? 4 4 4 4 3 3 ? ?"}},
		// OpZero of a word that is known goes both ways all the same.
		{"a3 c1 a0 l6 a4 c1 t", map[int]string{1: "? ? 3 3 3 3 ?"}},
		{"a3 c1 a1 l5 d t", map[int]string{1: "? ? 3 3 3 3"}},
		// What comes from a step that is not reached is no way.
		{"a3 c1 k5 a4 c1 t", map[int]string{1: "? ? 3 ? ? 3"}},
		{"a3 c1 d t a4 c1 k2", map[int]string{1: "? ? 3 3 ? ? ?"}},
	})
}

func TestPromise10KnownInLoops(t *testing.T) {
	checkKnown(t, []knownCase{
		// The loop leaves the local as it is.
		{"a3 c1 d b1 s k2", map[int]string{1: "? ? 3 3 3 3"}},
		{"a3 c1 b2 l2 t", map[int]string{1: "? ? 3 3 3"}},
		// It stores the same word, or another one.
		{"a3 c1 a3 c1 k2", map[int]string{1: "? ? 3 3 3"}},
		{"a3 c1 d a4 c1 k2", map[int]string{1: "? ? ? ? ? 4"}},
		{"a3 c1 b1 a1 e c1 k2", nil},
		{"a3 c1 b1 a1 e c1 b1 l2 t", nil},
		// It stores what it loaded: of the same local, of another one, and all round.
		{"a3 c1 b1 c1 k2", map[int]string{1: "? ? 3 3 3"}},
		{"a3 c1 b1 c2 b2 c1 k2", map[int]string{1: "? ? 3 3 3 3 3", 2: "? ? ? ? 3 3 3"}},
		{"a3 c1 a3 c2 b1 c3 b2 c1 b3 c2 k4", map[int]string{1: "? ? 3 3 3 3 3 3 3 3 3", 2: "? ? ? ? 3 3 3 3 3 3 3", 3: "? ? ? ? ? ? 3 3 3 3 3"}},
		{"a3 c1 a4 c2 b1 c3 b2 c1 b3 c2 k4", map[int]string{1: "? ? 3 3 ? ? ? ? ? ? ?"}},
		// One of the ways round spoils it, a jump late.
		{"a3 c1 b2 l7 b1 c1 k2 h c1 k2", nil},
		// The loop goes back to the beginning, where nothing is known.
		{"b1 a3 c1 k0", map[int]string{1: "? ? ? 3"}},
		{"d a3 c1 b1 l0 t", map[int]string{1: "? ? ? 3 3 3"}},
		// Two loops, one in the other; only the inner one changes local 2.
		{"a3 c1 a4 c2 d b1 c2 b3 l5 b3 l4 t", map[int]string{1: "? ? 3 3 3 3 3 3 3 3 3 3", 2: "? ? ? ? ? ? ? 3 3 3 3 3"}},
	})
}

func TestPromise10KnownOfWhatIsNotReached(t *testing.T) {
	checkKnown(t, []knownCase{
		{"a3 c1 t d", map[int]string{1: "? ? 3 ?"}},
		{"a3 c1 t a4 c1 b1 t", map[int]string{1: "? ? 3 ? ? ? ?"}},
		{"a3 c1 k5 d d t", map[int]string{1: "? ? 3 ? ? 3"}},
		{"a3 c1 k2 d", map[int]string{1: "? ? 3 ?"}},
		{"t a3 c1 b1 k1", nil},
	})
	// Such a load stays, and such three are folded all the same.
	code := codeOf(t, "a3 c1 t a4 c1 b1 s a1 a2 d t")
	if got := impl.ShowCode(impl.Loaded(code)); got != "a3 c1 t a4 c1 b1 s a1 a2 d t" {
		t.Errorf("Loaded = %q", got)
	}
	if got := impl.ShowCode(impl.FoldedAll(code)); got != "a3 c1 t a4 c1 b1 s a3 k10 k10 t" {
		t.Errorf("FoldedAll = %q", got)
	}
}

// Each of the 8 locals alone, by a push and by a load of each other one; all others stay unknown.
func TestPromise10KnownOfEachLocal(t *testing.T) {
	for local := range 8 {
		var cases []knownCase
		pushed := fmt.Sprintf("a-7 c%d t", local)
		cases = append(cases, knownCase{pushed, map[int]string{local: "? ? -7"}})
		for other := range 8 {
			if other != local {
				text := fmt.Sprintf("a-7 c%d b%d c%d b%d t", other, other, local, local)
				cases = append(cases, knownCase{text, map[int]string{other: "? ? -7 -7 -7 -7", local: "? ? ? ? -7 -7"}})
			}
		}
		checkKnown(t, cases)
	}
	all := impl.Known(codeOf(t, "a10 c0 a11 c1 a12 c2 a13 c3 a14 c4 a15 c5 a16 c6 a17 c7 t"))
	if !slices.Equal(all[16], []int64{10, 11, 12, 13, 14, 15, 16, 17}) {
		t.Errorf("Known of all = %v", all)
	}
}

// A word that is known all along the longest code, from step to step back, and through as many locals as there are.
func TestPromise10KnownInLongCode(t *testing.T) {
	known := impl.Known(codeOf(t, "a3 c1"+steps(37, "d")+" k2"))
	for at := 2; at < 40; at++ {
		if known[at][1] != 3 {
			t.Fatalf("ahead of %d: %v", at, known[at])
		}
	}
	back := []impl.Insn{{Op: impl.OpPush, A: 9}, {Op: impl.OpStore, A: 5}, {Op: impl.OpJump, A: 39}, {Op: impl.OpGive}}
	for at := int64(4); at < 40; at++ {
		back = append(back, impl.Insn{Op: impl.OpJump, A: at - 1})
	}
	known = impl.Known(back)
	for at := 2; at < 40; at++ {
		if known[at][5] != 9 {
			t.Fatalf("back, ahead of %d: %v", at, known[at])
		}
	}
	// Each round of the loop spoils one local more, or none.
	const rounds = "a3 c0 a3 c1 a3 c2 a3 c3 a3 c4 a3 c5 a3 c6 a3 c7 d b6 c7 b5 c6 b4 c5 b3 c4 b2 c3 b1 c2 b0 c1 aN c0 b7 l16 t"
	for n, want := range map[string]int64{"a4": impl.Unknown, "a3": 3} {
		known = impl.Known(codeOf(t, strings.Replace(rounds, "aN", n, 1)))
		if !slices.Equal(known[15], []int64{3, 3, 3, 3, 3, 3, 3, impl.Unknown}) || !slices.Equal(known[16], slices.Repeat([]int64{want}, 8)) {
			t.Errorf("with %s: ahead of the loop %v, in it %v", n, known[15], known[16])
		}
	}
}

// checkTurned asks for one code of each code that a test wrote, and has all else of the chapter looked at too.
func checkTurned(t *testing.T, name string, answer func([]impl.Insn) []impl.Insn, look func(*testing.T, []impl.Insn), rows map[string]string) {
	t.Helper()
	for text, want := range rows {
		code := codeOf(t, text)
		if got := impl.ShowCode(answer(code)); got != want {
			t.Errorf("%s(%q) = %q, want %q", name, text, got, want)
		}
		look(t, code)
	}
}

func TestPromise10Loaded(t *testing.T) {
	checkTurned(t, "Loaded", impl.Loaded, checkFold, map[string]string{
		"t":                                 "t",
		"b1 t":                              "b1 t",
		"a3 c1 b1 t":                        "a3 c1 a3 t",
		"a3 c1 b2 t":                        "a3 c1 b2 t",
		"a-3 c7 b7 b6 b7 t":                 "a-3 c7 a-3 b6 a-3 t",
		"a-2147483648 c0 b0 b0 t":           "a-2147483648 c0 a-2147483648 a-2147483648 t",
		"a2147483647 c0 b0 t":               "a2147483647 c0 a2147483647 t",
		"a0 c0 b0 t":                        "a0 c0 a0 t",
		"a3 c1 b1 c2 b2 t":                  "a3 c1 a3 c2 a3 t",
		"a3 c1 b1 c1 b1 t":                  "a3 c1 a3 c1 a3 t",
		"b1 c2 b2 t":                        "b1 c2 b2 t",
		"b1 a3 c1 k0":                       "b1 a3 c1 k0",
		"a3 c1 b1 k2":                       "a3 c1 a3 k2",
		"a3 c1 b1 a4 c1 k2":                 "a3 c1 b1 a4 c1 k2",
		"a3 c1 b1 h c1 b1 t":                "a3 c1 a3 h c1 b1 t",
		"a3 c1 t b1 t":                      "a3 c1 t b1 t",
		"a3 c1 k4 b1 b1 t":                  "a3 c1 k4 b1 a3 t",
		"a1 l5 a3 c1 k7 a3 c1 b1 t":         "a1 l5 a3 c1 k7 a3 c1 a3 t",
		"a1 l5 a3 c1 k7 a4 c1 b1 t":         "a1 l5 a3 c1 k7 a4 c1 b1 t",
		"a3 c1 b1 a4 d s b1 l9 c1 b1 t":     "a3 c1 a3 a4 d s a3 l9 c1 b1 t",
		"a3 c1 a1 a2 d b1 s t":              "a3 c1 a1 a2 d a3 s t",
		"a3 c1 n1 o1,1 p1,1 q1,1 k1 l1 t":   "a3 c1 n1 o1,1 p1,1 q1,1 k1 l1 t",
		"a3 c1" + steps(37, "b1") + " t":    "a3 c1" + steps(37, "a3") + " t",
		"a3 c1" + steps(38, "b1"):           "a3 c1" + steps(38, "a3"),
		"a3 c1" + steps(36, "b1") + " l2 t": "a3 c1" + steps(36, "a3") + " l2 t",
	})
}

// Words that go round, each with each of the four; what comes out is pushed where they stood.
func TestPromise10FoldedOfAllWords(t *testing.T) {
	words := []int64{}
	for _, n := range wordSamples() {
		if isWord(n) {
			words = append(words, n)
		}
	}
	for _, a := range words {
		for _, b := range words {
			for op := int64(impl.OpAdd); op <= impl.OpDiv; op++ {
				code := []impl.Insn{{Op: impl.OpSay}, {Op: impl.OpPush, A: a}, {Op: impl.OpPush, A: b}, {Op: op}, {Op: impl.OpGive}}
				want := slices.Clone(code)
				if word, is := comesOut(op, a, b); is {
					jump := impl.Insn{Op: impl.OpJump, A: 4}
					want = []impl.Insn{{Op: impl.OpSay}, {Op: impl.OpPush, A: word}, jump, jump, {Op: impl.OpGive}}
				}
				if got := impl.Folded(code); !slices.Equal(got, want) {
					t.Fatalf("Folded(%q) = %q, want %q", impl.ShowCode(code), impl.ShowCode(got), impl.ShowCode(want))
				}
				if got := impl.FoldedAll(code); !slices.Equal(got, want) {
					t.Fatalf("FoldedAll(%q) = %q, want %q", impl.ShowCode(code), impl.ShowCode(got), impl.ShowCode(want))
				}
			}
		}
	}
}

func TestPromise10Folded(t *testing.T) {
	checkTurned(t, "Folded", impl.Folded, checkFold, map[string]string{
		"a3 a4 d t":            "a7 k3 k3 t",
		"a3 a4 e t":            "a-1 k3 k3 t",
		"a3 a4 f t":            "a12 k3 k3 t",
		"a13 a4 g t":           "a3 k3 k3 t",
		"a-13 a4 g t":          "a-3 k3 k3 t",
		"a2147483647 a1 d t":   "a-2147483648 k3 k3 t",
		"a-2147483648 a1 e t":  "a2147483647 k3 k3 t",
		"a65536 a65536 f t":    "a0 k3 k3 t",
		"a65536 a32768 f t":    "a-2147483648 k3 k3 t",
		"a-2147483648 a-1 g t": "a-2147483648 k3 k3 t",
		"a0 a4 g t":            "a0 k3 k3 t",
		"a3 a0 g t":            "a3 a0 g t",
		"a0 a0 g t":            "a0 a0 g t",
		"a3 a0 d t":            "a3 k3 k3 t",
		"a3 a0 f t":            "a0 k3 k3 t",
		"a3 a0 g a3 a4 d t":    "a3 a0 g a7 k6 k6 t",
		"s s a3 a4 d s t":      "s s a7 k5 k5 s t",
		// The first alone is turned.
		"a3 a4 d a5 a6 d t":   "a7 k3 k3 a5 a6 d t",
		"a3 a4 d s a5 a6 f t": "a7 k3 k3 s a5 a6 f t",
		"a9 a3 a4 d d t":      "a9 a7 k4 k4 d t",
		"a9 a9 a3 a4 d t":     "a9 a9 a7 k5 k5 t",
		"a3 a4 d a5 d t":      "a7 k3 k3 a5 d t",
		// They are the last ones, or but one.
		"a3 a4 d":         "a3 a4 d",
		"s a3 a4 d":       "s a3 a4 d",
		"a3 a4 d a5 a6 d": "a7 k3 k3 a5 a6 d",
		"s a3 a4 d s":     "s a7 k4 k4 s",
		"a3 a4":           "a3 a4",
		"a3":              "a3",
		// The second or the third is a leader; the first may be one.
		"a3 a4 d l1 t":         "a3 a4 d l1 t",
		"a3 a4 d l2 t":         "a3 a4 d l2 t",
		"a3 a4 d l0 t":         "a7 k3 k3 l0 t",
		"a3 a4 d l3 t":         "a7 k3 k3 l3 t",
		"a3 a4 d t k1":         "a3 a4 d t k1",
		"a3 a4 d t k2":         "a3 a4 d t k2",
		"a3 a4 d t k0":         "a7 k3 k3 t k0",
		"k1 a3 a4 d t":         "k1 a7 k4 k4 t",
		"k2 a3 a4 d t":         "k2 a3 a4 d t",
		"k3 a3 a4 d t":         "k3 a3 a4 d t",
		"k4 a3 a4 d t":         "k4 a7 k4 k4 t",
		"t a3 a4 d t":          "t a7 k4 k4 t",
		"a3 a4 d a5 a6 d l1 t": "a3 a4 d a11 k6 k6 l1 t",
		// Other steps, or not in a row.
		"a3 b4 d t":                         "a3 b4 d t",
		"b3 a4 d t":                         "b3 a4 d t",
		"a3 a4 j t":                         "a3 a4 j t",
		"a3 a4 h t":                         "a3 a4 h t",
		"a3 a4 i t":                         "a3 a4 i t",
		"a3 a4 s t":                         "a3 a4 s t",
		"a3 a4 c1 t":                        "a3 a4 c1 t",
		"a3 k2 a4 d t":                      "a3 k2 a4 d t",
		"a3 a4 k3 d t":                      "a3 a4 k3 d t",
		"a3 h a4 d t":                       "a3 h a4 d t",
		"d a3 a4 t":                         "d a3 a4 t",
		"a3 d a4 t":                         "a3 d a4 t",
		"a3 c1 b1 a4 d t":                   "a3 c1 b1 a4 d t",
		"t":                                 "t",
		"s" + steps(35, "s") + " a3 a4 d t": "s" + steps(35, "s") + " a7 k39 k39 t",
		"s" + steps(36, "s") + " a3 a4 d":   "s" + steps(36, "s") + " a3 a4 d",
	})
}

func TestPromise10FoldedAll(t *testing.T) {
	checkTurned(t, "FoldedAll", impl.FoldedAll, checkFold, map[string]string{
		"t":         "t",
		"a3 a4 d t": "a7 k3 k3 t",
		"a3 a0 g t": "a3 a0 g t",
		"a3 a4 d":   "a3 a4 d",
		// They come about behind Loaded only.
		"a3 c1 b1 a4 d t":       "a3 c1 a7 k5 k5 t",
		"a3 c1 a4 b1 e t":       "a3 c1 a1 k5 k5 t",
		"a3 c1 b1 b1 f t":       "a3 c1 a9 k5 k5 t",
		"a0 c1 a5 b1 g t":       "a0 c1 a5 a0 g t",
		"a3 c1 b1 c2 b1 b2 d t": "a3 c1 a3 c2 a6 k7 k7 t",
		"a3 c1 b2 a4 d t":       "a3 c1 b2 a4 d t",
		"a3 c1 b1 a4 d l2 t":    "a3 c1 a7 k5 k5 l2 t",
		"a3 c1 b1 a4 d l3 t":    "a3 c1 a3 a4 d l3 t",
		// Behind another three.
		"a3 a4 d a5 a6 d t":         "a7 k3 k3 a11 k6 k6 t",
		"a3 a4 d a5 a6 d":           "a7 k3 k3 a5 a6 d",
		"a1 a0 g a3 a4 d a5 a6 f t": "a1 a0 g a7 k6 k6 a30 k9 k9 t",
		"a3 c1 b1 a4 d b1 b1 f d t": "a3 c1 a7 k5 k5 a9 k8 k8 d t",
		// What comes out is not in a row with what is ahead or behind, nor known where it is stored.
		"a1 a2 a3 d d t":                "a1 a5 k4 k4 d t",
		"a1 a2 d a3 d t":                "a3 k3 k3 a3 d t",
		"a1 a2 d c1 b1 a3 d t":          "a3 k3 k3 c1 b1 a3 d t",
		"a3 c1 b1 a4 d s b1 l9 c1 b1 t": "a3 c1 a7 k5 k5 s a3 l9 c1 b1 t",
		// As many as can be.
		"a1 a2 d" + steps(12, "a1 a2 d") + " t": strings.Join(manyFolded(13), " ") + " t",
	})
}

// manyFolded are so many threes, each folded.
func manyFolded(n int) []string {
	var all []string
	for k := range n {
		all = append(all, fmt.Sprintf("a3 k%d k%d", 3*k+3, 3*k+3))
	}
	return all
}

func foldNames() []string { return []string{"Loaded", "Folded", "FoldedAll"} }

// foldAnswers are the chapter's codes of one code, as foldNames tells.
func foldAnswers(code []impl.Insn) [][]impl.Insn {
	return [][]impl.Insn{impl.Loaded(code), impl.Folded(code), impl.FoldedAll(code)}
}

func TestPromise10NoCode(t *testing.T) {
	for _, code := range noCodes() {
		if got := impl.Known(code); len(got) != 0 {
			t.Errorf("Known(%v) = %v", code, got)
		}
		for k, got := range foldAnswers(code) {
			if len(got) != 0 {
				t.Errorf("%s(%v) = %v", foldNames()[k], code, got)
			}
		}
	}
	// One wrong step among many that would be folded.
	right := codeOf(t, "a3 c1 b1 a4 d a5 a6 d l0 t")
	for at := range right {
		for _, i := range wrongInsns() {
			wrong := slices.Clone(right)
			wrong[at] = i
			if a, b := impl.Known(wrong), foldAnswers(wrong); len(a)+len(b[0])+len(b[1])+len(b[2]) != 0 {
				t.Fatalf("of %v: %v, %v", wrong, a, b)
			}
		}
	}
}

func memoryCodes(t *testing.T) [][]impl.Insn {
	var codes [][]impl.Insn
	for _, text := range []string{"t", "k0", "b1 t", "a3 c1 b1 t", "a3 a4 d t", "a3 a4 d a5 a6 d t", "a3 c1 b1 a4 d s b1 l9 c1 b1 t", "a3 c1 d b1 s k2", "s" + steps(35, "s") + " a3 a4 d t"} {
		codes = append(codes, codeOf(t, text))
	}
	for seed := range uint64(100) {
		codes = append(codes, drawnConstants(seed, 1+int(seed%40)))
	}
	return codes
}

func TestPromise21KnownIsNewMemory(t *testing.T) {
	for _, code := range memoryCodes(t) {
		text := impl.ShowCode(code)
		kept := slices.Clone(code)
		first, second := impl.Known(code), impl.Known(code)
		want := cloned(first)
		checkNoneShared(t, text, first)
		for _, row := range first {
			_ = append(row, 77, 78, 79)
		}
		for k := range first[:cap(first)] {
			first[:cap(first)][k] = []int64{77}
		}
		_ = append(first, []int64{78})
		if third := impl.Known(code); !slices.EqualFunc(second, want, slices.Equal) || !slices.EqualFunc(third, want, slices.Equal) || !slices.Equal(code, kept) {
			t.Fatalf("Known(%q) = %v, and again %v, want %v", text, second, third, want)
		}
	}
}

// checkNewCodes writes into each of a chapter's codes of one code, and asks whether that is to be seen in it, in those answered beside it, or in later ones.
func checkNewCodes(t *testing.T, code []impl.Insn, answers func([]impl.Insn) [][]impl.Insn) {
	t.Helper()
	odd := impl.Insn{Op: 77, A: 77, B: 77}
	kept := slices.Clone(code)
	var want [][]impl.Insn
	for _, list := range answers(code) {
		want = append(want, slices.Clone(list))
	}
	for k := range want {
		first, others := answers(code), answers(code)
		list := first[k]
		for at := range list[:cap(list)] {
			list[:cap(list)][at] = odd
		}
		_ = append(list, odd, odd)
		for j, again := range answers(code) {
			if j != k && !slices.Equal(first[j], want[j]) || !slices.Equal(others[j], want[j]) || !slices.Equal(again, want[j]) || !slices.Equal(code, kept) {
				t.Fatalf("answer %d of %v = %v, and again %v, want %v, behind answer %d", j, kept, others[j], again, want[j], k)
			}
		}
	}
}

func TestPromise21FoldAnswersAreNewMemory(t *testing.T) {
	for _, code := range memoryCodes(t) {
		checkNewCodes(t, code, foldAnswers)
	}
	for _, code := range [][]impl.Insn{nil, {}, {{Op: 77, A: 77, B: 77}}} {
		checkNewCodes(t, code, foldAnswers)
		_ = append(impl.Known(code), []int64{1}, []int64{2})
		if b := foldAnswers(code); len(impl.Known(code))+len(b[0])+len(b[1])+len(b[2]) != 0 {
			t.Errorf("of %v again: %v", code, b)
		}
	}
}

// The code lies in a longer one: what is behind it is neither read nor written. The two steps behind would make three with its last ones.
func TestPromise21FoldLeavesArguments(t *testing.T) {
	codes := memoryCodes(t)
	for _, text := range []string{"a3", "a3 a4", "a3 a4 d", "a3 c1", "s a3 a4"} {
		codes = append(codes, codeOf(t, text))
	}
	for _, code := range codes {
		for _, behind := range []string{"d t d t", "a4 d t t", "c1 b1 t t", "t t t t", "k0 k1 k2 l0"} {
			whole := slices.Concat(code, codeOfInsns(behind), make([]impl.Insn, 3))
			kept := slices.Clone(whole)
			got, want := foldAnswers(whole[:len(code)]), foldAnswers(code)
			if known := impl.Known(whole[:len(code)]); !slices.EqualFunc(known, impl.Known(code), slices.Equal) || !slices.EqualFunc(got, want, slices.Equal) {
				t.Fatalf("with %q behind: %v, %v, want %v", behind, known, got, want)
			}
			if !slices.Equal(whole, kept) {
				t.Fatalf("%v is changed: %v", kept, whole)
			}
		}
	}
}
