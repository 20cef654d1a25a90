package tests

import (
	"fmt"
	"math"
	"reflect"
	"slices"
	"testing"

	"loop.example/g00334/impl"
)

// kindsIn are all kinds there are: of a program that is not right those that are no classes.
func kindsIn(p impl.Program) []int64 {
	kinds := []int64{impl.TyNone, impl.TyNull, impl.TyInt}
	if wrongWith(p) == "" {
		for k := range p.Classes {
			kinds = append(kinds, int64(k))
		}
	}
	return kinds
}

// someKinds are numbers of kinds, there or not.
func someKinds(p impl.Program) []int64 { return someClasses(p) }

// A lattice is a table, filled until nothing is to be added: does the kind at the one place fit that at the other?
type lattice struct {
	kinds []int64
	fits  [][]bool
}

func latticeIn(p impl.Program) lattice {
	l := lattice{kinds: kindsIn(p)}
	l.fits = make([][]bool, len(l.kinds))
	for at, a := range l.kinds {
		l.fits[at] = make([]bool, len(l.kinds))
		for bt, b := range l.kinds {
			above := a >= 0 && b >= 0 && p.Classes[a].Super == b
			l.fits[at][bt] = a == b || b == -3 || a == -2 && b >= 0 || above
		}
	}
	for middle := range l.fits {
		for a := range l.fits {
			for b := range l.fits {
				l.fits[a][b] = l.fits[a][b] || l.fits[a][middle] && l.fits[middle][b]
			}
		}
	}
	return l
}

func (l lattice) has(t int64) bool { return slices.Contains(l.kinds, t) }

func (l lattice) fit(a int64, b int64) bool {
	return l.has(a) && l.has(b) && l.fits[slices.Index(l.kinds, a)][slices.Index(l.kinds, b)]
}

// join is the one that both fit which fits all others that both fit.
func (l lattice) join(a int64, b int64) int64 {
	if !l.has(a) || !l.has(b) {
		return impl.TyNone
	}
	both := classesWhere(l.fits, func(k int64) bool { return l.fit(a, l.kinds[k]) && l.fit(b, l.kinds[k]) })
	return l.kinds[leastIn(l.fits, both)]
}

func (l lattice) isState(s impl.State) bool {
	return len(s.Stack) < 9 && len(s.Locals) == 8 && !slices.ContainsFunc(slices.Concat(s.Stack, s.Locals), func(t int64) bool { return !l.has(t) })
}

func (l lattice) fitState(a impl.State, b impl.State) bool {
	return l.isState(a) && l.isState(b) && slices.EqualFunc(a.Stack, b.Stack, l.fit) && slices.EqualFunc(a.Locals, b.Locals, l.fit)
}

func (l lattice) joinState(a impl.State, b impl.State) (impl.State, bool) {
	if !l.isState(a) || !l.isState(b) || len(a.Stack) != len(b.Stack) {
		return impl.State{}, false
	}
	joined := twinState(a)
	for k, t := range b.Stack {
		joined.Stack[k] = l.join(joined.Stack[k], t)
	}
	for k, t := range b.Locals {
		joined.Locals[k] = l.join(joined.Locals[k], t)
	}
	return joined, true
}

// stateOf has TyNone in all locals that are not told.
func stateOf(stack []int64, locals ...int64) impl.State {
	return impl.State{Stack: stack, Locals: append(locals, slices.Repeat([]int64{impl.TyNone}, 8-len(locals))...)}
}

func twinState(s impl.State) impl.State {
	return impl.State{Stack: slices.Clone(s.Stack), Locals: slices.Clone(s.Locals)}
}

func sameState(a impl.State, b impl.State) bool {
	return slices.Equal(a.Stack, b.Stack) && slices.Equal(a.Locals, b.Locals)
}

// checkKinds asks KindOk, Fits and Joined of each number, of a kind or not.
func checkKinds(t *testing.T, p impl.Program, kinds []int64) {
	t.Helper()
	l := latticeIn(p)
	for _, a := range kinds {
		if got := impl.KindOk(p, a); got != l.has(a) {
			t.Errorf("KindOk(%d) = %v, of %v", a, got, p)
		}
		for _, b := range kinds {
			if got := impl.Fits(p, a, b); got != l.fit(a, b) {
				t.Errorf("Fits(%d, %d) = %v, of %v", a, b, got, p)
			}
			if got := impl.Joined(p, a, b); got != l.join(a, b) {
				t.Errorf("Joined(%d, %d) = %d, want %d, of %v", a, b, got, l.join(a, b), p)
			}
		}
	}
}

// checkStates asks StateOk, StateFits and StateJoined of each state and each pair, right or not.
func checkStates(t *testing.T, p impl.Program, states []impl.State) {
	t.Helper()
	l := latticeIn(p)
	for _, a := range states {
		if got := impl.StateOk(p, a); got != l.isState(a) {
			t.Errorf("StateOk(%v) = %v, of %v", a, got, p)
		}
		for _, b := range states {
			if got := impl.StateFits(p, a, b); got != l.fitState(a, b) {
				t.Errorf("StateFits(%v, %v) = %v, of %v", a, b, got, p)
			}
			want, fine := l.joinState(a, b)
			if got, is := impl.StateJoined(p, a, b); is != fine || !sameState(got, want) {
				t.Errorf("StateJoined(%v, %v) = %v, %v, want %v, %v, of %v", a, b, got, is, want, fine, p)
			}
		}
	}
}

func TestPromise6KindOk(t *testing.T) {
	for _, c := range []struct {
		why  string
		p    impl.Program
		kind int64
		want bool
	}{
		{"TyInt", family(), impl.TyInt, true},
		{"TyNull", family(), impl.TyNull, true},
		{"TyNone", family(), impl.TyNone, true},
		{"the first class", family(), 0, true},
		{"one between", family(), 3, true},
		{"the last class", family(), 5, true},
		{"one past the last", family(), 6, false},
		{"the only class", lone(), 0, true},
		{"one past the only", lone(), 1, false},
		{"one below TyNone", family(), -4, false},
		{"far below", family(), -1 << 32, false},
		{"far beyond", family(), 1 << 32, false},
		{"the least number", family(), math.MinInt64, false},
		{"the greatest number", family(), math.MaxInt64, false},
	} {
		if got := impl.KindOk(c.p, c.kind); got != c.want {
			t.Errorf("%s: KindOk(%d) = %v", c.why, c.kind, got)
		}
	}
}

func TestPromise6Fits(t *testing.T) {
	for _, c := range []struct {
		why  string
		a, b int64
		want bool
	}{
		{"TyInt and itself", impl.TyInt, impl.TyInt, true},
		{"TyNull and itself", impl.TyNull, impl.TyNull, true},
		{"TyNone and itself", impl.TyNone, impl.TyNone, true},
		{"a class and itself", 4, 4, true},
		{"the first class and itself", 0, 0, true},
		{"TyInt and TyNone", impl.TyInt, impl.TyNone, true},
		{"TyNull and TyNone", impl.TyNull, impl.TyNone, true},
		{"a class and TyNone", 3, impl.TyNone, true},
		{"TyNone and TyInt", impl.TyNone, impl.TyInt, false},
		{"TyNone and TyNull", impl.TyNone, impl.TyNull, false},
		{"TyNone and a class", impl.TyNone, 3, false},
		{"TyNull and the first class", impl.TyNull, 0, true},
		{"TyNull and the last class", impl.TyNull, 5, true},
		{"a class and TyNull", 0, impl.TyNull, false},
		{"TyNull and TyInt", impl.TyNull, impl.TyInt, false},
		{"TyInt and TyNull", impl.TyInt, impl.TyNull, false},
		{"TyInt and a class", impl.TyInt, 0, false},
		{"a class and TyInt", 0, impl.TyInt, false},
		{"a class of none above and TyInt", 5, impl.TyInt, false},
		{"a class and one above it", 2, 0, true},
		{"a class and one two above it", 4, 0, true},
		{"a class and one below it", 0, 2, false},
		{"a class and one two below it", 0, 4, false},
		{"nothing to do with each other", 4, 3, false},
		{"nothing to do with each other, both highest", 0, 5, false},
		{"no kind and itself", 6, 6, false},
		{"no kind and itself, below TyNone", -4, -4, false},
		{"no kind and TyNone", 6, impl.TyNone, false},
		{"no kind, below TyNone, and TyNone", -4, impl.TyNone, false},
		{"TyNone and no kind", impl.TyNone, 6, false},
		{"TyNull and no kind", impl.TyNull, 6, false},
		{"TyNull and no kind, below TyNone", impl.TyNull, -4, false},
		{"a class and no kind", 0, 6, false},
		{"no kind and a class", 6, 0, false},
		{"TyInt and no kind", impl.TyInt, -4, false},
		{"no kind and TyInt", -4, impl.TyInt, false},
		{"the least number and itself", math.MinInt64, math.MinInt64, false},
		{"the greatest number and TyNone", math.MaxInt64, impl.TyNone, false},
		{"TyNull and the greatest number", impl.TyNull, math.MaxInt64, false},
	} {
		if got := impl.Fits(family(), c.a, c.b); got != c.want {
			t.Errorf("%s: Fits(%d, %d) = %v", c.why, c.a, c.b, got)
		}
	}
}

func TestPromise6Joined(t *testing.T) {
	forked := tree([]int64{-1, 0, 1, 1, 2, 3}, nil)
	for _, c := range []struct {
		why  string
		p    impl.Program
		a, b int64
		want int64
	}{
		{"TyInt and itself", family(), impl.TyInt, impl.TyInt, impl.TyInt},
		{"TyNull and itself", family(), impl.TyNull, impl.TyNull, impl.TyNull},
		{"TyNone and itself", family(), impl.TyNone, impl.TyNone, impl.TyNone},
		{"a class and itself", family(), 3, 3, 3},
		{"TyNull and a class", family(), impl.TyNull, 5, 5},
		{"TyNull and the first class", family(), impl.TyNull, 0, 0},
		{"TyNull and TyInt", family(), impl.TyNull, impl.TyInt, impl.TyNone},
		{"TyInt and a class", family(), impl.TyInt, 0, impl.TyNone},
		{"TyInt and TyNone", family(), impl.TyInt, impl.TyNone, impl.TyNone},
		{"TyNull and TyNone", family(), impl.TyNull, impl.TyNone, impl.TyNone},
		{"a class and TyNone", family(), 4, impl.TyNone, impl.TyNone},
		{"a class and one above", family(), 2, 0, 0},
		{"a class and one two above", family(), 4, 0, 0},
		{"two below one", forked, 4, 5, 1},
		{"two right below one", forked, 2, 3, 1},
		{"two at unlike depths", forked, 2, 5, 1},
		{"two with none above both", family(), 4, 3, impl.TyNone},
		{"two with none above at all", family(), 0, 5, impl.TyNone},
		{"no kind and a class", family(), 6, 0, impl.TyNone},
		{"no kind and TyInt", family(), 6, impl.TyInt, impl.TyNone},
		{"no kind and TyNull", family(), 6, impl.TyNull, impl.TyNone},
		{"no kind and TyNone", family(), -4, impl.TyNone, impl.TyNone},
		{"no kind and itself", family(), 6, 6, impl.TyNone},
		{"no kind and itself, below TyNone", family(), -4, -4, impl.TyNone},
		{"both ends", family(), math.MinInt64, math.MaxInt64, impl.TyNone},
	} {
		if got := impl.Joined(c.p, c.a, c.b); got != c.want {
			t.Errorf("%s: Joined(%d, %d) = %d, want %d", c.why, c.a, c.b, got, c.want)
		}
		if got := impl.Joined(c.p, c.b, c.a); got != c.want {
			t.Errorf("%s, changed about: Joined(%d, %d) = %d, want %d", c.why, c.b, c.a, got, c.want)
		}
	}
}

// TestPromise6EveryTree goes through all rows of Supers there are, and all pairs of numbers.
func TestPromise6EveryTree(t *testing.T) {
	for n := 1; n <= 6; n++ {
		for _, supers := range everyTree(n) {
			p := tree(supers, nil)
			checkKinds(t, p, someKinds(p))
		}
	}
}

func TestPromise6DrawnPrograms(t *testing.T) {
	right, wrong := 0, 0
	for seed := range uint64(3000) {
		p := drawnProgram(seed)
		checkKinds(t, p, someKinds(p))
		if wrongWith(p) == "" {
			right++
		} else {
			wrong++
		}
	}
	if right < 300 || wrong < 300 {
		t.Errorf("only %d right ones, %d wrong ones", right, wrong)
	}
}

// TestPromise6InItsOwnWords asks the functions about each other, as the promise is told.
func TestPromise6InItsOwnWords(t *testing.T) {
	classes, nones := 0, 0
	for n := 1; n <= 6; n++ {
		for _, supers := range everyTree(n) {
			p := tree(supers, nil)
			for _, a := range kindsIn(p) {
				for _, b := range kindsIn(p) {
					joined := impl.Joined(p, a, b)
					if !impl.Fits(p, a, joined) || !impl.Fits(p, b, joined) {
						t.Fatalf("Joined(%d, %d) = %d, and one does not fit it, of %v", a, b, joined, p)
					}
					if other := impl.Joined(p, b, a); other != joined {
						t.Fatalf("Joined(%d, %d) = %d, and changed about %d, of %v", a, b, joined, other, p)
					}
					if a != b && impl.Fits(p, a, b) && impl.Fits(p, b, a) {
						t.Fatalf("%d and %d fit each other, of %v", a, b, p)
					}
					for _, k := range kindsIn(p) {
						if impl.Fits(p, a, k) && impl.Fits(p, b, k) && !impl.Fits(p, joined, k) {
							t.Fatalf("Joined(%d, %d) = %d does not fit %d, of %v", a, b, joined, k, p)
						}
						if impl.Fits(p, a, b) && impl.Fits(p, b, k) && !impl.Fits(p, a, k) {
							t.Fatalf("%d fits %d, and that %d, of %v", a, b, k, p)
						}
						if impl.Joined(p, joined, k) != impl.Joined(p, a, impl.Joined(p, b, k)) {
							t.Fatalf("%d, %d and %d joined hang on the order, of %v", a, b, k, p)
						}
					}
					if joined >= 0 && joined != a && joined != b {
						classes++
					} else if joined == impl.TyNone && a >= 0 && b >= 0 {
						nones++
					}
				}
			}
		}
	}
	if classes < 1000 || nones < 1000 {
		t.Errorf("only %d classes above two, %d times none", classes, nones)
	}
}

func TestPromise6StateOk(t *testing.T) {
	none := func(n int) []int64 { return slices.Repeat([]int64{impl.TyNone}, n) }
	for _, c := range []struct {
		why  string
		s    impl.State
		want bool
	}{
		{"a Stack of none, no list", impl.State{Locals: none(8)}, true},
		{"a Stack of none", impl.State{Stack: []int64{}, Locals: none(8)}, true},
		{"a Stack of one", impl.State{Stack: none(1), Locals: none(8)}, true},
		{"a Stack of 7", impl.State{Stack: none(7), Locals: none(8)}, true},
		{"a Stack of MaxStack", impl.State{Stack: none(impl.MaxStack), Locals: none(8)}, true},
		{"a Stack of 8", impl.State{Stack: none(8), Locals: none(8)}, true},
		{"a Stack of 9", impl.State{Stack: none(9), Locals: none(8)}, false},
		{"a Stack of very many", impl.State{Stack: none(100000), Locals: none(8)}, false},
		{"no Locals, no list", impl.State{}, false},
		{"no Locals", impl.State{Stack: none(8), Locals: []int64{}}, false},
		{"7 Locals", impl.State{Stack: none(8), Locals: none(7)}, false},
		{"9 Locals", impl.State{Stack: none(8), Locals: none(9)}, false},
		{"16 Locals, as many as all places", impl.State{Locals: none(16)}, false},
		{"very many Locals", impl.State{Locals: none(100000)}, false},
		{"all kinds", stateOf([]int64{0, 1, 2, 3, 4, 5, impl.TyInt, impl.TyNull}, impl.TyNull, impl.TyInt, impl.TyNone, 5, 4, 3, 2, 1), true},
	} {
		if got := impl.StateOk(family(), c.s); got != c.want {
			t.Errorf("%s: StateOk = %v", c.why, got)
		}
	}
	for place := range 8 {
		for _, kind := range someKinds(family()) {
			onStack, local := stateOf(none(8)), stateOf(none(3))
			onStack.Stack[place], local.Locals[place] = kind, kind
			want := kind >= impl.TyNone && kind < 6
			if got := impl.StateOk(family(), onStack); got != want {
				t.Errorf("StateOk of %d on the Stack at %d = %v", kind, place, got)
			}
			if got := impl.StateOk(family(), local); got != want {
				t.Errorf("StateOk of %d in local %d = %v", kind, place, got)
			}
		}
	}
}

func TestPromise6StateFitsAndStateJoined(t *testing.T) {
	wrong := impl.State{Stack: []int64{2}, Locals: []int64{2}}
	for _, c := range []struct {
		why    string
		a, b   impl.State
		fits   bool
		joined impl.State
		is     bool
	}{
		{"empty ones", stateOf(nil), stateOf([]int64{}), true, stateOf(nil), true},
		{"one and itself", stateOf([]int64{2, impl.TyInt}, 4), stateOf([]int64{2, impl.TyInt}, 4), true, stateOf([]int64{2, impl.TyInt}, 4), true},
		{"one above on the Stack", stateOf([]int64{2}), stateOf([]int64{0}), true, stateOf([]int64{0}), true},
		{"one below on the Stack", stateOf([]int64{0}), stateOf([]int64{2}), false, stateOf([]int64{0}), true},
		{"one above in a local", stateOf(nil, 0, 4), stateOf(nil, 0, 2), true, stateOf(nil, 0, 2), true},
		{"one below in a local", stateOf(nil, 0, 2), stateOf(nil, 0, 4), false, stateOf(nil, 0, 2), true},
		{"one above, one below", stateOf([]int64{2, 0}), stateOf([]int64{0, 2}), false, stateOf([]int64{0, 0}), true},
		{"above on the Stack, below in a local", stateOf([]int64{4}, 1), stateOf([]int64{2}, 3), false, stateOf([]int64{2}, 1), true},
		{"not to be told on the Stack", stateOf([]int64{impl.TyInt}), stateOf([]int64{5}), false, stateOf([]int64{impl.TyNone}), true},
		{"not to be told in a local", stateOf(nil, impl.TyInt, impl.TyNull), stateOf(nil, impl.TyNull, 5), false, stateOf(nil, impl.TyNone, 5), true},
		{"a Stack of one less", stateOf([]int64{2}), stateOf([]int64{2, 2}), false, impl.State{}, false},
		{"a Stack of one more", stateOf([]int64{2, 2}), stateOf([]int64{2}), false, impl.State{}, false},
		{"a Stack of none", stateOf(nil), stateOf([]int64{impl.TyNone}), false, impl.State{}, false},
		{"a Stack of none, changed about", stateOf([]int64{impl.TyNone}), stateOf(nil), false, impl.State{}, false},
		{"the first is not right", wrong, stateOf([]int64{2}), false, impl.State{}, false},
		{"the second is not right", stateOf([]int64{2}), wrong, false, impl.State{}, false},
		{"neither is right", wrong, wrong, false, impl.State{}, false},
		{"the zero one", impl.State{}, impl.State{}, false, impl.State{}, false},
		{"no kind on the first Stack", stateOf([]int64{6}), stateOf([]int64{impl.TyNone}), false, impl.State{}, false},
		{"no kind on the second Stack", stateOf([]int64{impl.TyNull}), stateOf([]int64{6}), false, impl.State{}, false},
		{"no kind in a local", stateOf(nil, -4), stateOf(nil), false, impl.State{}, false},
		{"no kind in a local of the second", stateOf(nil), stateOf(nil, -4), false, impl.State{}, false},
	} {
		if got := impl.StateFits(family(), c.a, c.b); got != c.fits {
			t.Errorf("%s: StateFits = %v", c.why, got)
		}
		if got, is := impl.StateJoined(family(), c.a, c.b); is != c.is || !sameState(got, c.joined) {
			t.Errorf("%s: StateJoined = %v, %v, want %v", c.why, got, is, c.joined)
		}
	}
}

// TestPromise6StatesThatDifferInOnePlace asks of every place there is.
func TestPromise6StatesThatDifferInOnePlace(t *testing.T) {
	p := family()
	for place := range 16 {
		var states []impl.State
		for _, kind := range []int64{-4, impl.TyNone, impl.TyNull, impl.TyInt, 0, 1, 2, 3, 4, 5, 6} {
			s := stateOf([]int64{0, 1, 2, 3, 4, 5, impl.TyInt, impl.TyNull}, 0, 1, 2, 3, 4, 5, impl.TyInt, impl.TyNull)
			if place < 8 {
				s.Stack[place] = kind
			} else {
				s.Locals[place-8] = kind
			}
			states = append(states, s)
		}
		checkStates(t, p, states)
	}
}

// TestPromise6HowManyOnTheStack asks of all pairs of lengths, and of too many.
func TestPromise6HowManyOnTheStack(t *testing.T) {
	var states []impl.State
	for n := range 11 {
		states = append(states, stateOf(slices.Repeat([]int64{2}, n), 0), impl.State{Stack: []int64{2}, Locals: slices.Repeat([]int64{0}, n)})
	}
	checkStates(t, family(), states)
}

// drawnState has n on the Stack; it is right most of the time, and near to others of its program.
func drawnState(seed uint64, p impl.Program, n int) impl.State {
	next := func(below int) int {
		seed = seed*6364136223846793005 + 1442695040888963407
		return int(seed>>33) % below
	}
	kinds := append(kindsIn(p), impl.TyNull, impl.TyNull)
	draw := func(n int) []int64 {
		list := []int64{}
		for range n {
			list = append(list, kinds[next(len(kinds))])
			if next(200) == 0 {
				list[len(list)-1] = int64(len(p.Classes) - next(2)*(len(p.Classes)+4))
			}
		}
		return list
	}
	s := impl.State{Stack: draw(n), Locals: draw(8)}
	if next(30) == 0 {
		s.Locals = draw(7 + 2*next(2))
	}
	return s
}

// drawnStates are some of their own, some that those before them fit, and some that are joined of them.
func drawnStates(seed uint64, p impl.Program) []impl.State {
	l := latticeIn(p)
	var states []impl.State
	for k := range uint64(6) {
		s := drawnState(seed*31+k, p, int(seed+k/5)%10)
		states = append(states, s)
		if joined, is := l.joinState(s, states[0]); is {
			states = append(states, joined)
		}
	}
	return states
}

func TestPromise6DrawnStates(t *testing.T) {
	right, fits, joined := 0, 0, 0
	for seed := range uint64(2000) {
		p := drawnProgram(seed)
		states := drawnStates(seed, p)
		checkStates(t, p, states)
		for _, a := range states {
			if impl.StateOk(p, a) {
				right++
			}
			for _, b := range states {
				if impl.StateFits(p, a, b) && !sameState(a, b) {
					fits++
				}
				if _, is := impl.StateJoined(p, a, b); is {
					joined++
				}
			}
		}
	}
	if right < 1000 || fits < 1000 || joined < 1000 {
		t.Errorf("only %d right ones, %d that fit another one, %d joined ones", right, fits, joined)
	}
}

// TestPromise6StatesKindByKind asks the functions about each other, as the chapter tells them.
func TestPromise6StatesKindByKind(t *testing.T) {
	for seed := range uint64(2000) {
		p := drawnProgram(seed)
		states := drawnStates(seed, p)
		for _, a := range states {
			for _, b := range states {
				joined, is := impl.StateJoined(p, a, b)
				if want := impl.StateOk(p, a) && impl.StateOk(p, b) && len(a.Stack) == len(b.Stack); is != want {
					t.Fatalf("StateJoined(%v, %v) says %v, of %v", a, b, is, p)
				}
				if !is {
					continue
				}
				if !impl.StateOk(p, joined) || !impl.StateFits(p, a, joined) || !impl.StateFits(p, b, joined) {
					t.Fatalf("StateJoined(%v, %v) = %v, and one does not fit it, of %v", a, b, joined, p)
				}
				ones, others := slices.Concat(a.Stack, a.Locals), slices.Concat(b.Stack, b.Locals)
				each := true
				for k, got := range slices.Concat(joined.Stack, joined.Locals) {
					if want := impl.Joined(p, ones[k], others[k]); got != want {
						t.Fatalf("StateJoined(%v, %v) = %v, at %d want %d, of %v", a, b, joined, k, want, p)
					}
					each = each && impl.Fits(p, ones[k], others[k])
				}
				if impl.StateFits(p, a, b) != each {
					t.Fatalf("StateFits(%v, %v) = %v, of %v", a, b, !each, p)
				}
				for _, c := range states {
					if impl.StateFits(p, a, c) && impl.StateFits(p, b, c) && !impl.StateFits(p, joined, c) {
						t.Fatalf("StateJoined(%v, %v) = %v does not fit %v, of %v", a, b, joined, c, p)
					}
				}
			}
		}
	}
}

func TestPromise6WrongPrograms(t *testing.T) {
	for why, p := range wrongFamilies(t) {
		for _, kind := range someKinds(p)[:14] {
			if got, want := impl.KindOk(p, kind), kind >= impl.TyNone && kind < 0; got != want {
				t.Errorf("%s: KindOk(%d) = %v", why, kind, got)
			}
		}
		for class := range int64(7) {
			if impl.Fits(p, class, class) || impl.Fits(p, class, impl.TyNone) || impl.Fits(p, impl.TyNull, class) || impl.Fits(p, class, 0) {
				t.Errorf("%s: class %d fits", why, class)
			}
			if impl.Joined(p, class, class) != impl.TyNone || impl.Joined(p, impl.TyNull, class) != impl.TyNone || impl.Joined(p, class, 0) != impl.TyNone {
				t.Errorf("%s: class %d is joined", why, class)
			}
			for _, s := range []impl.State{stateOf([]int64{class}), stateOf(nil, class)} {
				if got, is := impl.StateJoined(p, s, s); is || !sameState(got, impl.State{}) || impl.StateOk(p, s) || impl.StateFits(p, s, s) {
					t.Errorf("%s: a state with class %d is right", why, class)
				}
			}
		}
		// What is no class is a kind of every program.
		one, other := stateOf([]int64{impl.TyNull}, impl.TyInt), stateOf([]int64{impl.TyInt}, impl.TyInt)
		if !impl.Fits(p, impl.TyNull, impl.TyNone) || impl.Fits(p, impl.TyNull, impl.TyInt) || impl.Joined(p, impl.TyInt, impl.TyInt) != impl.TyInt {
			t.Errorf("%s: TyInt, TyNull and TyNone do not fit as they do", why)
		}
		if got, is := impl.StateJoined(p, one, other); !is || !sameState(got, stateOf([]int64{impl.TyNone}, impl.TyInt)) || !impl.StateOk(p, one) || !impl.StateFits(p, one, got) {
			t.Errorf("%s: StateJoined = %v, %v", why, got, is)
		}
	}
}

func TestPromise21KindAnswersAreNewMemory(t *testing.T) {
	spoil := func(list []int64) {
		list = list[:cap(list)]
		for k := range list {
			list[k] = 77
		}
	}
	for seed := range uint64(300) {
		p := drawnProgram(seed)
		kept := twin(p)
		for _, plain := range drawnStates(seed, p) {
			for _, other := range drawnStates(seed, p) {
				a, b := twinState(plain), twinState(other)
				got, is := impl.StateJoined(p, a, b)
				want := twinState(got)
				second, _ := impl.StateJoined(p, a, b)
				same, _ := impl.StateJoined(p, a, a)
				spoil(got.Stack)
				if !slices.Equal(got.Locals, want.Locals) {
					t.Fatalf("StateJoined(%v, %v): its two lists share memory", a, b)
				}
				spoil(got.Locals)
				spoil(same.Stack)
				spoil(same.Locals)
				third, still := impl.StateJoined(p, a, b)
				if still != is || !sameState(second, want) || !sameState(third, want) || !sameState(a, plain) || !sameState(b, other) || !sameProgram(p, kept) {
					t.Fatalf("StateJoined(%v, %v) = %v, and again %v, want %v", a, b, second, third, want)
				}
			}
		}
	}
}

// roomyState gives both lists spare room with a mark in it; the lists that it answers are the whole ones.
func roomyState(s impl.State) (impl.State, [2][]int64) {
	stack := append(slices.Clone(s.Stack), 55, 55, 55, 55)
	locals := append(slices.Clone(s.Locals), 55, 55, 55, 55)
	return impl.State{Stack: stack[:len(s.Stack)], Locals: locals[:len(s.Locals)]}, [2][]int64{stack, locals}
}

func TestPromise21KindsLeaveArguments(t *testing.T) {
	programs := []impl.Program{{}, lone(), family(), row()}
	for seed := range uint64(200) {
		programs = append(programs, drawnProgram(seed))
	}
	for at, plain := range programs {
		p, whole := roomy(plain)
		_, want := roomy(plain)
		for _, a := range someKinds(p) {
			impl.KindOk(p, a)
			for _, b := range someKinds(p) {
				impl.Fits(p, a, b)
				impl.Joined(p, a, b)
			}
		}
		states := drawnStates(uint64(at), plain)
		for _, one := range states {
			for _, other := range states {
				a, inA := roomyState(one)
				b, inB := roomyState(other)
				_, wantA := roomyState(one)
				_, wantB := roomyState(other)
				impl.StateOk(p, a)
				impl.StateFits(p, a, b)
				impl.StateJoined(p, a, b)
				if !reflect.DeepEqual(inA, wantA) || !reflect.DeepEqual(inB, wantB) {
					t.Fatal(fmt.Sprint("a state, or the room behind it, is changed: ", one, other))
				}
			}
		}
		if !sameProgram(p, plain) || !reflect.DeepEqual(whole, want) {
			t.Fatal(fmt.Sprint("a program, or the room behind it, is changed: ", plain))
		}
	}
}
