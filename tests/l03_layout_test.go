package tests

import (
	"math"
	"slices"
	"strings"
	"testing"

	"loop.example/g00334/impl"
)

// codeOf reads a code that the test itself wrote: it must be right.
func codeOf(t *testing.T, text string) []impl.Insn {
	t.Helper()
	code, is := impl.ReadCode(text)
	if !is || !impl.CodeOk(code) {
		t.Fatalf("%q is no code", text)
	}
	return code
}

// steps writes the same step several times, each with a blank ahead.
func steps(n int, step string) string { return strings.Repeat(" "+step, n) }

func goes(i impl.Insn) bool { return i.Op == impl.OpJump || i.Op == impl.OpZero }

// bytesIn is the chapter's count for one step, by a table of letters instead of a switch.
func bytesIn(i impl.Insn, wide int64) int64 {
	const more = "?1100000001101112000"
	if i.Op == impl.OpPush {
		if i.A == int64(int8(i.A)) {
			return 2
		}
		return 5
	}
	return 1 + int64(more[i.Op-1]-'0') + wide
}

func placesIn(code []impl.Insn, wide []int64) []int64 {
	places := []int64{0}
	for k, i := range code {
		places = append(places, places[k]+bytesIn(i, wide[k]))
	}
	return places
}

func holds(code []impl.Insn, wide []int64) bool {
	places := placesIn(code, wide)
	for k, i := range code {
		if goes(i) && wide[k] == 0 {
			if far := places[i.A] - places[k]; far < -16 || far > 15 {
				return false
			}
		}
	}
	return true
}

// allLayouts are all that a code may have, right or not.
func allLayouts(code []impl.Insn) [][]int64 {
	layouts := [][]int64{{}}
	for _, i := range code {
		var longer [][]int64
		for _, l := range layouts {
			longer = append(longer, append(slices.Clone(l), 0))
			if goes(i) {
				longer = append(longer, append(slices.Clone(l), 1))
			}
		}
		layouts = longer
	}
	return layouts
}

func sumOf(numbers []int64) (sum int64) {
	for _, n := range numbers {
		sum += n
	}
	return sum
}

// checkLeast holds one code's answers against all layouts that it may have.
func checkLeast(t *testing.T, code []impl.Insn) {
	t.Helper()
	got := impl.LayoutOf(code)
	if len(got) != len(code) || !impl.LayoutOk(code, got) || !holds(code, got) {
		t.Fatalf("LayoutOf(%q) = %v, which is not right", impl.ShowCode(code), got)
	}
	size := impl.SizeOf(code)
	if places := impl.PlacesOf(code, got); size != places[len(code)] {
		t.Fatalf("SizeOf(%q) = %d, places %v", impl.ShowCode(code), size, places)
	}
	for _, other := range allLayouts(code) {
		right := holds(code, other)
		if impl.LayoutOk(code, other) != right {
			t.Fatalf("LayoutOk(%q, %v) = %v", impl.ShowCode(code), other, !right)
		}
		places := placesIn(code, other)
		if have := impl.PlacesOf(code, other); !slices.Equal(have, places) {
			t.Fatalf("PlacesOf(%q, %v) = %v, want %v", impl.ShowCode(code), other, have, places)
		}
		if !right {
			continue
		}
		if sumOf(other) < sumOf(got) || places[len(code)] < size {
			t.Fatalf("LayoutOf(%q) = %v, and %v is right too", impl.ShowCode(code), got, other)
		}
		for k := range got {
			if got[k] > other[k] {
				t.Fatalf("LayoutOf(%q) = %v, but number %d may be short: %v", impl.ShowCode(code), got, k, other)
			}
		}
	}
}

// checkNothing asks that a code is refused by all functions of the chapter, with whatever layout.
func checkNothing(t *testing.T, code []impl.Insn) {
	t.Helper()
	if impl.CodeOk(code) {
		t.Errorf("CodeOk(%v) = true", code)
	}
	for _, wide := range [][]int64{nil, make([]int64, len(code)), make([]int64, len(code)+1)} {
		if got := impl.PlacesOf(code, wide); len(got) != 0 {
			t.Errorf("PlacesOf(%v, %v) = %v", code, wide, got)
		}
		if impl.LayoutOk(code, wide) {
			t.Errorf("LayoutOk(%v, %v) = true", code, wide)
		}
	}
	if got := impl.LayoutOf(code); len(got) != 0 {
		t.Errorf("LayoutOf(%v) = %v", code, got)
	}
	if got := impl.SizeOf(code); got != 0 {
		t.Errorf("SizeOf(%v) = %d", code, got)
	}
}

func TestPromise3HowManySteps(t *testing.T) {
	give := impl.Insn{Op: impl.OpGive}
	for _, n := range []int{1, 2, 39, 40} {
		code := slices.Repeat([]impl.Insn{give}, n)
		if !impl.CodeOk(code) || impl.SizeOf(code) != int64(n) || len(impl.LayoutOf(code)) != n || len(impl.PlacesOf(code, make([]int64, n))) != n+1 {
			t.Errorf("%d steps: %v %v %v", n, impl.CodeOk(code), impl.SizeOf(code), impl.LayoutOf(code))
		}
	}
	checkNothing(t, nil)
	checkNothing(t, []impl.Insn{})
	for _, n := range []int{41, 42, 80, 1000} {
		checkNothing(t, slices.Repeat([]impl.Insn{give}, n))
	}
}

func TestPromise3WrongSteps(t *testing.T) {
	give := impl.Insn{Op: impl.OpGive}
	for _, i := range wrongInsns() {
		checkNothing(t, []impl.Insn{i})
		checkNothing(t, []impl.Insn{i, give})
		checkNothing(t, []impl.Insn{give, i})
		checkNothing(t, []impl.Insn{give, i, give})
	}
	for _, n := range []int{2, 20, 40} {
		code := slices.Repeat([]impl.Insn{give}, n)
		code[n-1] = impl.Insn{Op: impl.OpLoad, A: 8}
		checkNothing(t, code)
	}
}

func TestPromise3WhereJumpsGo(t *testing.T) {
	for _, op := range []int64{impl.OpJump, impl.OpZero} {
		for _, n := range []int{1, 2, 3, 20, 39, 40} {
			for at := range n {
				code := slices.Repeat([]impl.Insn{{Op: impl.OpGive}}, n)
				for _, to := range []int{0, at, n / 2, n - 1} {
					code[at] = impl.Insn{Op: op, A: int64(to)}
					if !impl.CodeOk(code) {
						t.Errorf("CodeOk of %d steps, number %d to %d = false", n, at, to)
					}
				}
				for _, to := range []int{-1, n, n + 1, 40, 1000, math.MaxInt64, math.MinInt64} {
					code[at] = impl.Insn{Op: op, A: int64(to)}
					if impl.CodeOk(code) {
						t.Errorf("CodeOk of %d steps, number %d to %d = true", n, at, to)
					}
				}
			}
		}
	}
	checkNothing(t, []impl.Insn{{Op: impl.OpJump, A: 1}})
	checkNothing(t, []impl.Insn{{Op: impl.OpZero, A: 2}, {Op: impl.OpGive}})
}

// A number that is no step's is no jump's place: only jumps are asked where they go.
func TestPromise3OthersGoNowhere(t *testing.T) {
	for _, c := range stepCases() {
		want := !goes(c.insn) || c.insn.A == 0
		if got := impl.CodeOk([]impl.Insn{c.insn}); got != want {
			t.Errorf("CodeOk of %q alone = %v", c.text, got)
		}
	}
}

func TestPromise3Bytes(t *testing.T) {
	for text, want := range map[string]int64{
		"a0": 2, "a1": 2, "a-1": 2, "a127": 2, "a-128": 2, "a128": 5, "a-129": 5, "a255": 5, "a256": 5, "a1000": 5, "a2147483647": 5, "a-2147483648": 5,
		"b0": 2, "b7": 2, "c0": 2, "c7": 2, "d": 1, "e": 1, "f": 1, "g": 1, "h": 1, "i": 1, "j": 1, "k0": 2, "l0": 2, "m": 1,
		"n0": 2, "n5": 2, "o0,0": 2, "o5,3": 2, "p0,0": 2, "p5,3": 2, "q0,0": 3, "q5,19": 3, "r": 1, "s": 1, "t": 1,
	} {
		code := codeOf(t, text)
		if got := impl.PlacesOf(code, []int64{0}); !slices.Equal(got, []int64{0, want}) {
			t.Errorf("PlacesOf(%q) = %v, want %d", text, got, want)
		}
		if got := impl.SizeOf(code); got != want {
			t.Errorf("SizeOf(%q) = %d, want %d", text, got, want)
		}
		between := codeOf(t, "t "+text+" t")
		if got := impl.PlacesOf(between, []int64{0, 0, 0}); !slices.Equal(got, []int64{0, 1, 1 + want, 2 + want}) {
			t.Errorf("PlacesOf(t %s t) = %v", text, got)
		}
		wide := []int64{1}
		if got := impl.PlacesOf(code, wide); goes(code[0]) && !slices.Equal(got, []int64{0, 3}) || !goes(code[0]) && len(got) != 0 {
			t.Errorf("PlacesOf(%q), wide = %v", text, got)
		}
		if got := impl.LayoutOk(code, wide); got != goes(code[0]) {
			t.Errorf("LayoutOk(%q), wide = %v", text, got)
		}
	}
}

func TestPromise3WrongLayouts(t *testing.T) {
	code := codeOf(t, "b0 l4 a1 k0 t")
	for _, wide := range [][]int64{{0, 0, 0, 0, 0}, {0, 1, 0, 0, 0}, {0, 0, 0, 1, 0}, {0, 1, 0, 1, 0}} {
		if len(impl.PlacesOf(code, wide)) != 6 || !impl.LayoutOk(code, wide) {
			t.Errorf("%v: %v, %v", wide, impl.PlacesOf(code, wide), impl.LayoutOk(code, wide))
		}
	}
	wrong := [][]int64{
		nil, {}, {0}, {0, 0, 0, 0}, {0, 1, 0, 1}, {0, 0, 0, 0, 0, 0}, {0, 1, 0, 1, 0, 0}, {0, 0, 0, 0, 0, 1}, make([]int64, 40), make([]int64, 41), make([]int64, 1000),
		{1, 0, 0, 0, 0}, {0, 0, 1, 0, 0}, {0, 0, 0, 0, 1}, {1, 1, 1, 1, 1}, {0, 1, 1, 1, 0},
	}
	for _, number := range []int64{2, -1, 3, 256, 1 << 32, 1<<32 + 1, math.MinInt64, math.MaxInt64} {
		for at := range code {
			wide := make([]int64, 5)
			wide[at] = number
			wrong = append(wrong, wide)
		}
	}
	for _, wide := range wrong {
		if got := impl.PlacesOf(code, wide); len(got) != 0 {
			t.Errorf("PlacesOf with %v = %v", wide, got)
		}
		if impl.LayoutOk(code, wide) {
			t.Errorf("LayoutOk with %v = true", wide)
		}
	}
}

// The jump and what is between come to just as many bytes as the row says.
func TestPromise3Reach(t *testing.T) {
	for _, c := range []struct {
		text string
		at   int
		far  int64
		near bool
	}{
		{"k0", 0, 0, true},
		{"k1 t", 0, 2, true},
		{"k13" + steps(12, "d") + " t", 0, 14, true},
		{"k14" + steps(13, "d") + " t", 0, 15, true},
		{"k15" + steps(14, "d") + " t", 0, 16, false},
		{"l14" + steps(13, "d") + " t", 0, 15, true},
		{"l15" + steps(14, "d") + " t", 0, 16, false},
		{"l4 a1000 a1000 q0,0 t", 0, 15, true},
		{"l5 a1000 a1000 b1 b1 t", 0, 16, false},
		{"t t k17" + steps(14, "d") + " t", 2, 16, false},
		{"d" + steps(15, "d") + " k0", 16, -16, true},
		{"d" + steps(16, "d") + " k0", 17, -17, false},
		{"d" + steps(15, "d") + " l0", 16, -16, true},
		{"d" + steps(16, "d") + " l0 t", 17, -17, false},
		{"t a1000 a1000 a1000 d k1", 5, -16, true},
		{"t a1000 a1000 a1000 b0 k1", 5, -17, false},
		{"k38" + steps(37, "d") + " t", 0, 39, false},
		{"d" + steps(37, "d") + " k0", 38, -38, false},
	} {
		code := codeOf(t, c.text)
		short := make([]int64, len(code))
		places := impl.PlacesOf(code, short)
		if far := places[code[c.at].A] - places[c.at]; far != c.far {
			t.Fatalf("%q goes %d", c.text, far)
		}
		if got := impl.LayoutOk(code, short); got != c.near {
			t.Errorf("LayoutOk(%q), short = %v", c.text, got)
		}
		want := make([]int64, len(code))
		if !c.near {
			want[c.at] = 1
		}
		if got := impl.LayoutOf(code); !slices.Equal(got, want) {
			t.Errorf("LayoutOf(%q) = %v", c.text, got)
		}
		wide := make([]int64, len(code))
		wide[c.at] = 1
		if !impl.LayoutOk(code, wide) {
			t.Errorf("LayoutOk(%q), wide = false", c.text)
		}
		checkLeast(t, code)
	}
}

// One that is made wide lies between another one and where that goes.
func TestPromise3OnePushesAnother(t *testing.T) {
	for _, c := range []struct {
		text string
		wide []int64
		size int64
	}{
		{"k4 k6 a1000 a1000 t a1000 t", []int64{0, 1, 0, 0, 0, 0, 0}, 22},
		{"k5 k7 a1000 a1000 d t a1000 t", []int64{1, 1, 0, 0, 0, 0, 0, 0}, 24},
		{"k5 k6 a1000 a1000 d k9 a1000 a1000 a1000 t", []int64{1, 1, 0, 0, 0, 1, 0, 0, 0, 0}, 36},
		{"k5 k6 a1000 a1000 d k8 a1000 a1000 a1000 t", []int64{0, 0, 0, 0, 0, 0, 0, 0, 0, 0}, 33},
		{"t a1000 a1000 b0 k0 l1 t", []int64{0, 0, 0, 0, 0, 0, 0}, 18},
		{"a1000 a1000 a1000 b0 l0 l1 t", []int64{0, 0, 0, 0, 1, 0, 0}, 23},
		{"a1000 a1000 a1000 b0 l0 d l1 t", []int64{0, 0, 0, 0, 1, 0, 0, 0}, 24},
		{"t a1000 a1000 a1000 t l0 l2 t", []int64{0, 0, 0, 0, 0, 1, 0, 0}, 23},
		{"t d a1000 a1000 b0 b0 k0 k2 t", []int64{0, 0, 0, 0, 0, 0, 0, 0, 0}, 21},
		{"b0 a1000 a1000 a1000 k0 a1 l1 t", []int64{0, 0, 0, 0, 1, 0, 1, 0}, 26},
	} {
		code := codeOf(t, c.text)
		if got := impl.LayoutOf(code); !slices.Equal(got, c.wide) {
			t.Errorf("LayoutOf(%q) = %v, want %v", c.text, got, c.wide)
		}
		if got := impl.SizeOf(code); got != c.size {
			t.Errorf("SizeOf(%q) = %d, want %d", c.text, got, c.size)
		}
		checkLeast(t, code)
	}
}

// Each of two jumps lies between the other one and where that goes, and both go just as far as they may: if one of them were wide, the other one would have to be, and all would be right. But both may be short.
func TestPromise3BothOrNone(t *testing.T) {
	for text, wide := range map[string]int64{
		"d d d k8 a1000 a1000 d k0 t":     0,
		"d d d d k9 a1000 a1000 d k0 t":   1,
		"d d d k9 a1000 a1000 d d k0 t":   1,
		"d d d l8 a1000 a1000 d l0 t t":   0,
		"d d d d l9 a1000 a1000 d l0 t t": 1,
	} {
		code := codeOf(t, text)
		want := make([]int64, len(code))
		for k, i := range code {
			if goes(i) {
				want[k] = wide
			}
		}
		if got := impl.LayoutOf(code); !slices.Equal(got, want) {
			t.Errorf("LayoutOf(%q) = %v, want %v", text, got, want)
		}
		checkLeast(t, code)
	}
}

// drawn makes codes of all kinds by a fixed row of numbers.
func drawn(seed uint64, n int, jumps int) []impl.Insn {
	next := func(below int) int {
		seed = seed*6364136223846793005 + 1442695040888963407
		return int(seed>>33) % below
	}
	fill := []string{"a1", "a1000", "b0", "c7", "d", "h", "n2", "o1,1", "p0,0", "q1,2", "r", "t", "a127", "a128", "a-128", "a-129"}
	code := make([]impl.Insn, n)
	for k := range code {
		code[k], _ = impl.ReadInsn(fill[next(len(fill))])
	}
	for range jumps {
		code[next(n)] = impl.Insn{Op: impl.OpJump + int64(next(2)), A: int64(next(n))}
	}
	return code
}

func TestPromise3NoRightLayoutHasLess(t *testing.T) {
	for seed := range uint64(6000) {
		n := 1 + int(seed%14)
		checkLeast(t, drawn(seed, n, int(seed/14%8)))
	}
	for seed := range uint64(400) {
		checkLeast(t, drawn(seed, 15+int(seed%26), int(seed%9)))
	}
}

// Codes of (nearly) nothing but jumps: each may push many others.
func TestPromise3OnlyJumps(t *testing.T) {
	for seed := range uint64(300) {
		checkLeast(t, drawn(seed, 1+int(seed%11), 40))
	}
	for _, n := range []int{8, 9, 16, 40} {
		code := make([]impl.Insn, n)
		for k := range code {
			code[k] = impl.Insn{Op: impl.OpJump, A: int64(n - 1)}
		}
		layout := impl.LayoutOf(code)
		if n <= 8 && sumOf(layout) != 0 || n > 8 && layout[n-9] != 1 || layout[n-1] != 0 || !impl.LayoutOk(code, layout) {
			t.Errorf("%d jumps to the last: %v", n, layout)
		}
		if got := impl.SizeOf(code); got != 2*int64(n)+sumOf(layout) {
			t.Errorf("%d jumps: %d bytes", n, got)
		}
	}
}

func TestPromise3GreatestCode(t *testing.T) {
	code := slices.Repeat([]impl.Insn{{Op: impl.OpPush, A: greatest}}, 40)
	if got := impl.SizeOf(code); got != 200 {
		t.Errorf("SizeOf = %d", got)
	}
	code[0] = impl.Insn{Op: impl.OpJump, A: 39}
	code[39] = impl.Insn{Op: impl.OpZero, A: 0}
	want := make([]int64, 40)
	want[0], want[39] = 1, 1
	if got := impl.LayoutOf(code); !slices.Equal(got, want) || impl.SizeOf(code) != 196 {
		t.Errorf("LayoutOf = %v, %d bytes", got, impl.SizeOf(code))
	}
}

func TestPromise21LayoutIsNewMemory(t *testing.T) {
	code := codeOf(t, "k5 k7 a1000 a1000 d t a1000 t")
	kept := slices.Clone(code)
	wide, want := impl.LayoutOf(code), []int64{1, 1, 0, 0, 0, 0, 0, 0}
	places, wantPlaces := impl.PlacesOf(code, wide), []int64{0, 3, 6, 11, 16, 17, 18, 23, 24}
	for _, list := range [][]int64{wide[:cap(wide)], places[:cap(places)]} {
		for k := range list {
			list[k] = 77
		}
	}
	if !slices.Equal(code, kept) {
		t.Error("the code is changed")
	}
	if got := impl.LayoutOf(code); !slices.Equal(got, want) {
		t.Errorf("LayoutOf again = %v", got)
	}
	if got := impl.PlacesOf(code, want); !slices.Equal(got, wantPlaces) || !slices.Equal(want, []int64{1, 1, 0, 0, 0, 0, 0, 0}) {
		t.Errorf("PlacesOf again = %v", got)
	}
	none := impl.LayoutOf(nil)
	_ = append(none, 5, 6, 7)
	if got := impl.LayoutOf(nil); len(got) != 0 {
		t.Errorf("LayoutOf nothing again = %v", got)
	}
	one := impl.PlacesOf(code, want)
	two := impl.PlacesOf(code, want)
	one[0] = 99
	if two[0] != 0 || want[0] != 1 {
		t.Error("two answers share memory")
	}
}

func TestPromise21LayoutLeavesArguments(t *testing.T) {
	for _, n := range []int{0, 1, 8, 20, 40, 41} {
		whole := drawn(uint64(n), 60, 30)
		for k := range whole {
			if goes(whole[k]) && n > 0 {
				whole[k].A %= int64(n)
			}
		}
		wide := slices.Repeat([]int64{1}, 60)
		for k := range n {
			wide[k] = 0
		}
		kept, keptWide := slices.Clone(whole), slices.Clone(wide)
		impl.CodeOk(whole[:n])
		impl.PlacesOf(whole[:n], wide[:n])
		impl.LayoutOk(whole[:n], wide[:n])
		impl.LayoutOf(whole[:n])
		impl.SizeOf(whole[:n])
		if !slices.Equal(whole, kept) || !slices.Equal(wide, keptWide) {
			t.Errorf("%d steps: an argument, or the room behind it, is changed", n)
		}
	}
}
