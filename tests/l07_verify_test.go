package tests

import (
	"fmt"
	"math"
	"reflect"
	"slices"
	"strings"
	"testing"

	"loop.example/g00334/impl"
)

// A follower is the chapter told once more, over tables of what fits what and what is under what; its program is right.
type follower struct {
	p      impl.Program
	l      lattice
	table  [][]bool
	class  int64
	method impl.Method
}

func followerOf(p impl.Program, class int64, name int64) follower {
	f := follower{p: p, l: latticeIn(p), table: underIn(p), class: class}
	for _, m := range p.Classes[class].Methods {
		if m.Name == name {
			f.method = m
		}
	}
	return f
}

func (f follower) kindsWhere(is func(k int64) bool) []int64 {
	return slices.DeleteFunc(slices.Clone(f.l.kinds), func(k int64) bool { return !is(k) })
}

func (f follower) fitting(wanted ...int64) [][]int64 {
	var places [][]int64
	for _, want := range wanted {
		places = append(places, f.kindsWhere(func(k int64) bool { return f.l.fit(k, want) }))
	}
	return places
}

// takes are the kinds that may stand at each place that i takes, the last one last; false when there is no such class, field or method.
func (f follower) takes(i impl.Insn) ([][]int64, bool) {
	named := i.Op >= impl.OpNew && i.Op <= impl.OpCall
	if named && !isThere(f.p, i.A) {
		return nil, false
	}
	switch i.Op {
	case impl.OpStore, impl.OpPop, impl.OpDup:
		return f.fitting(impl.TyNone), true
	case impl.OpSwap:
		return f.fitting(impl.TyNone, impl.TyNone), true
	case impl.OpAdd, impl.OpSub, impl.OpMul, impl.OpDiv:
		return f.fitting(impl.TyInt, impl.TyInt), true
	case impl.OpZero, impl.OpSay:
		return f.fitting(impl.TyInt), true
	case impl.OpNil:
		return [][]int64{f.kindsWhere(func(k int64) bool { return k == impl.TyNull || k >= 0 })}, true
	case impl.OpGive:
		return f.fitting(f.method.Gives), true
	case impl.OpGet, impl.OpPut:
		own := f.p.Classes[i.A].Fields
		if i.B >= int64(len(own)) {
			return nil, false
		}
		if i.Op == impl.OpGet {
			return f.fitting(i.A), true
		}
		return f.fitting(i.A, own[i.B]), true
	case impl.OpCall:
		m, is := f.selected(i)
		return f.fitting(append([]int64{i.A}, m.Args...)...), is
	}
	return nil, true
}

func (f follower) selected(i impl.Insn) (impl.Method, bool) {
	class := selectedIn(f.p, f.table, i.A, i.B)
	if class < 0 {
		return impl.Method{}, false
	}
	at := slices.IndexFunc(f.p.Classes[class].Methods, func(m impl.Method) bool { return m.Name == i.B })
	return f.p.Classes[class].Methods[at], true
}

func (f follower) puts(i impl.Insn, taken []int64, locals []int64) []int64 {
	switch i.Op {
	case impl.OpPush, impl.OpAdd, impl.OpSub, impl.OpMul, impl.OpDiv, impl.OpNil:
		return []int64{impl.TyInt}
	case impl.OpLoad:
		return []int64{locals[i.A]}
	case impl.OpDup:
		return []int64{taken[0], taken[0]}
	case impl.OpSwap:
		return []int64{taken[1], taken[0]}
	case impl.OpNull:
		return []int64{impl.TyNull}
	case impl.OpNew:
		return []int64{i.A}
	case impl.OpGet:
		return []int64{f.p.Classes[i.A].Fields[i.B]}
	case impl.OpCall:
		m, _ := f.selected(i)
		return []int64{m.Gives}
	}
	return nil
}

func (f follower) effect(i impl.Insn, s impl.State) (impl.State, bool) {
	if !impl.InsnOk(i) || !f.l.isState(s) || i.Op == impl.OpLoad && s.Locals[i.A] == impl.TyNone {
		return impl.State{}, false
	}
	takes, is := f.takes(i)
	below := len(s.Stack) - len(takes)
	if !is || below < 0 {
		return impl.State{}, false
	}
	for k, allowed := range takes {
		if !slices.Contains(allowed, s.Stack[below+k]) {
			return impl.State{}, false
		}
	}
	after := twinState(s)
	after.Stack = append(after.Stack[:below], f.puts(i, s.Stack[below:], s.Locals)...)
	if i.Op == impl.OpStore {
		after.Locals[i.A] = s.Stack[below]
	}
	if len(after.Stack) > 8 {
		return impl.State{}, false
	}
	return after, true
}

func (f follower) entry() impl.State {
	return stateOf(nil, append([]int64{f.class}, f.method.Args...)...)
}

// nextsBy may name the number behind the last one.
func nextsBy(code []impl.Insn, at int) []int {
	var nexts []int
	if goes(code[at]) {
		nexts = append(nexts, int(code[at].A))
	}
	if code[at].Op != impl.OpJump && code[at].Op != impl.OpGive {
		nexts = append(nexts, at+1)
	}
	return nexts
}

// frames joins along all ways until nothing changes; each round goes through the numbers in the order that it is given.
func (f follower) frames(order func(round int) []int) ([]impl.State, []int64, bool) {
	code := f.method.Code
	return f.framesFrom(make([]impl.State, len(code)), make([]int64, len(code)), order)
}

// framesFrom begins with what is there already.
func (f follower) framesFrom(states []impl.State, reached []int64, order func(round int) []int) ([]impl.State, []int64, bool) {
	changed, fine := true, true
	come := func(at int, s impl.State) {
		if at >= len(states) {
			fine = false
			return
		}
		joined := s
		if reached[at] == 1 {
			both, is := f.l.joinState(states[at], s)
			fine = fine && is
			joined = both
		}
		changed = changed || reached[at] == 0 || !sameState(joined, states[at])
		states[at], reached[at] = twinState(joined), 1
	}
	come(0, f.entry())
	for round := 0; changed && fine; round++ {
		changed = false
		for _, at := range order(round) {
			if !fine || reached[at] == 0 {
				continue
			}
			after, is := f.effect(f.method.Code[at], states[at])
			fine = fine && is
			if is {
				for _, next := range nextsBy(f.method.Code, at) {
					come(next, after)
				}
			}
		}
	}
	if !fine {
		return nil, nil, false
	}
	return states, reached, true
}

// ordersOf are ways to go through the numbers: ahead, back, and by a fixed row of numbers.
func ordersOf(n int, seed uint64) []func(round int) []int {
	numbers := make([]int, n)
	for k := range numbers {
		numbers[k] = k
	}
	back := slices.Clone(numbers)
	slices.Reverse(back)
	drawn := func(round int) []int {
		some := slices.Clone(numbers)
		next := drawer(seed + uint64(round))
		for k := range some {
			other := next(n)
			some[k], some[other] = some[other], some[k]
		}
		return some
	}
	return []func(int) []int{func(int) []int { return numbers }, func(int) []int { return back }, drawn}
}

func drawer(seed uint64) func(below int) int {
	return func(below int) int {
		seed = seed*6364136223846793005 + 1442695040888963407
		return int(seed>>33) % below
	}
}

func sameStates(a []impl.State, b []impl.State) bool { return slices.EqualFunc(a, b, sameState) }

func methodsOf(p impl.Program) [][2]int64 {
	var all [][2]int64
	for k, c := range p.Classes {
		for _, m := range c.Methods {
			all = append(all, [2]int64{int64(k), m.Name})
		}
	}
	return all
}

// checkMethodFrames holds Entry, Frames and Accepts of one method of a right program against the follower's, and says what Frames say.
func checkMethodFrames(t *testing.T, p impl.Program, class int64, name int64) ([]impl.State, []int64, bool) {
	t.Helper()
	f := followerOf(p, class, name)
	if got, is := impl.Entry(p, class, name); !is || !sameState(got, f.entry()) {
		t.Fatalf("Entry(%d, %d) = %v, %v, of %v", class, name, got, is, p)
	}
	states, reached, is := impl.Frames(p, class, name)
	for k, order := range ordersOf(len(f.method.Code), uint64(len(states))) {
		want, wantReached, fine := f.frames(order)
		if is != fine || !sameStates(states, want) || !slices.Equal(reached, wantReached) {
			t.Fatalf("Frames(%d, %d) = %v, %v, %v, by order %d %v, %v, %v, of %v", class, name, states, reached, is, k, want, wantReached, fine, impl.ShowProgram(p))
		}
	}
	if impl.Accepts(p, class, name) != is {
		t.Fatalf("Accepts(%d, %d) = %v, of %v", class, name, !is, impl.ShowProgram(p))
	}
	return states, reached, is
}

// hold asks the functions themselves, as the chapter is told: Entry fits number 0, and what comes behind each that is reached fits each that may come next.
func hold(p impl.Program, class int64, name int64, states []impl.State, reached []int64) bool {
	m, _ := impl.MethodOf(p, class, name)
	entry, is := impl.Entry(p, class, name)
	if !is || len(states) != len(m.Code) || len(reached) != len(m.Code) || reached[0] != 1 || !impl.StateFits(p, entry, states[0]) {
		return false
	}
	for at, i := range m.Code {
		if reached[at] == 0 {
			continue
		}
		after, is := impl.Effect(p, class, name, i, states[at])
		if !is {
			return false
		}
		for _, next := range nextsBy(m.Code, at) {
			if next >= len(states) || reached[next] == 0 || !impl.StateFits(p, after, states[next]) {
				return false
			}
		}
	}
	return true
}

// checkNoLesser asks that one kind less at one place is one too little.
func checkNoLesser(t *testing.T, p impl.Program, class int64, name int64, states []impl.State, reached []int64) {
	t.Helper()
	if !hold(p, class, name, states, reached) {
		t.Fatalf("Frames(%d, %d) = %v, %v do not hold, of %v", class, name, states, reached, impl.ShowProgram(p))
	}
	for at := range states {
		if reached[at] == 0 {
			if !sameState(states[at], impl.State{}) {
				t.Fatalf("Frames(%d, %d): %v at %d, that is not reached", class, name, states[at], at)
			}
			continue
		}
		for _, list := range [][]int64{states[at].Stack, states[at].Locals} {
			for k, kept := range list {
				for _, less := range kindsIn(p) {
					list[k] = less
					if less != kept && impl.Fits(p, less, kept) && hold(p, class, name, states, reached) {
						t.Fatalf("Frames(%d, %d): at %d %d would do for %d, of %v", class, name, at, less, kept, impl.ShowProgram(p))
					}
				}
				list[k] = kept
			}
		}
	}
}

// soundFamily is family with codes that give what they should.
func soundFamily() impl.Program {
	p := family()
	for k := range p.Classes {
		for j := range p.Classes[k].Methods {
			m := &p.Classes[k].Methods[j]
			m.Code = []impl.Insn{{Op: impl.OpNull}, {Op: impl.OpGive}}
			if m.Gives == impl.TyInt {
				m.Code[0].Op = impl.OpPush
			}
		}
	}
	return p
}

// coded is soundFamily with one method's code changed.
func coded(t *testing.T, class int64, name int64, text string) impl.Program {
	t.Helper()
	p := soundFamily()
	for j := range p.Classes[class].Methods {
		if m := &p.Classes[class].Methods[j]; m.Name == name {
			m.Code = codeOf(t, text)
			return p
		}
	}
	t.Fatalf("class %d has no method %d", class, name)
	return p
}

// fullLocals are of all kinds but classes 1 and 5.
func fullLocals() []int64 {
	return []int64{4, impl.TyInt, impl.TyNull, 0, 2, impl.TyNone, 3, impl.TyInt}
}

// An opCase tells which kinds may stand at each place that a step takes, the last one last, and what it puts.
type opCase struct {
	text  string
	takes [][]int64
	puts  func(taken []int64) []int64
}

// opCases are asked in method 4 of class 4 of family (it gives class 3), with fullLocals.
func opCases() []opCase {
	const number, null, none = impl.TyInt, impl.TyNull, impl.TyNone
	just := func(kinds ...int64) func([]int64) []int64 { return func([]int64) []int64 { return kinds } }
	nothing := just()
	numbers := []int64{number}
	all := []int64{number, null, none, 0, 1, 2, 3, 4, 5}
	to0, to1, to2, to3, to4, to5 := []int64{null, 0, 2, 4}, []int64{null, 1, 3}, []int64{null, 2, 4}, []int64{null, 3}, []int64{null, 4}, []int64{null, 5}
	return []opCase{
		{"a5", nil, just(number)},
		{"a-2147483648", nil, just(number)},
		{"b0", nil, just(4)},
		{"b1", nil, just(number)},
		{"b2", nil, just(null)},
		{"b7", nil, just(number)},
		{"c0", [][]int64{all}, nothing},
		{"c3", [][]int64{all}, nothing},
		{"c5", [][]int64{all}, nothing},
		{"c7", [][]int64{all}, nothing},
		{"d", [][]int64{numbers, numbers}, just(number)},
		{"e", [][]int64{numbers, numbers}, just(number)},
		{"f", [][]int64{numbers, numbers}, just(number)},
		{"g", [][]int64{numbers, numbers}, just(number)},
		{"h", [][]int64{all}, func(taken []int64) []int64 { return []int64{taken[0], taken[0]} }},
		{"i", [][]int64{all}, nothing},
		{"j", [][]int64{all, all}, func(taken []int64) []int64 { return []int64{taken[1], taken[0]} }},
		{"k0", nil, nothing},
		{"k1", nil, nothing},
		{"l0", [][]int64{numbers}, nothing},
		{"l1", [][]int64{numbers}, nothing},
		{"m", nil, just(null)},
		{"n0", nil, just(0)},
		{"n1", nil, just(1)},
		{"n5", nil, just(5)},
		{"o0,0", [][]int64{to0}, just(number)},
		{"o0,1", [][]int64{to0}, just(5)},
		{"o2,0", [][]int64{to2}, just(2)},
		{"o3,0", [][]int64{to3}, just(4)},
		{"o3,3", [][]int64{to3}, just(1)},
		{"o4,2", [][]int64{to4}, just(4)},
		{"p0,0", [][]int64{to0, numbers}, nothing},
		{"p0,1", [][]int64{to0, to5}, nothing},
		{"p2,0", [][]int64{to2, to2}, nothing},
		{"p3,2", [][]int64{to3, to0}, nothing},
		{"p3,3", [][]int64{to3, to1}, nothing},
		{"p4,2", [][]int64{to4, to4}, nothing},
		{"q0,0", [][]int64{to0}, just(number)},
		{"q0,3", [][]int64{to0, numbers, to0}, just(1)},
		{"q0,19", [][]int64{to0}, just(0)},
		{"q1,1", [][]int64{to1}, just(number)},
		{"q2,3", [][]int64{to2, numbers, to0}, just(1)},
		{"q2,7", [][]int64{to2, to2}, just(2)},
		{"q3,1", [][]int64{to3}, just(number)},
		{"q4,0", [][]int64{to4}, just(number)},
		{"q4,3", [][]int64{to4, numbers, to0}, just(1)},
		{"q4,4", [][]int64{to4, to1, to2, to3}, just(3)},
		{"q4,7", [][]int64{to4, to2}, just(2)},
		{"q4,8", [][]int64{to4}, just(5)},
		{"q4,19", [][]int64{to4}, just(0)},
		{"q5,0", [][]int64{to5, to5}, just(5)},
		{"r", [][]int64{{null, 0, 1, 2, 3, 4, 5}}, just(number)},
		{"s", [][]int64{numbers}, nothing},
		{"t", [][]int64{to3}, nothing},
	}
}

func insnOf(t *testing.T, text string) impl.Insn {
	t.Helper()
	i, is := impl.ReadInsn(text)
	if !is {
		t.Fatalf("%q is no step", text)
	}
	return i
}

// checkEffect asks it in method 4 of class 4 of family.
func checkEffect(t *testing.T, i impl.Insn, s impl.State, want impl.State, fine bool) {
	t.Helper()
	got, is := impl.Effect(family(), 4, 4, i, s)
	if is != fine || !sameState(got, want) {
		t.Errorf("Effect of %s = %v, %v, want %v, %v, of %v", impl.ShowInsn(i), got, is, want, fine, s)
	}
}

// localsBehind are fullLocals, but the one that is stored into.
func localsBehind(i impl.Insn, taken []int64) []int64 {
	locals := fullLocals()
	if i.Op == impl.OpStore {
		locals[i.A] = taken[0]
	}
	return locals
}

// rowsOf are all rows of kinds of this length.
func rowsOf(kinds []int64, n int) [][]int64 {
	rows := [][]int64{{}}
	for range n {
		var longer [][]int64
		for _, row := range rows {
			for _, k := range kinds {
				longer = append(longer, append(slices.Clone(row), k))
			}
		}
		rows = longer
	}
	return rows
}

// TestPromise7EffectOfEachKind asks of all rows of kinds that could be taken, right and wrong ones.
func TestPromise7EffectOfEachKind(t *testing.T) {
	asked := map[int64]bool{}
	for _, c := range opCases() {
		i := insnOf(t, c.text)
		asked[i.Op] = true
		for _, taken := range rowsOf(kindsIn(family()), len(c.takes)) {
			before := impl.State{Stack: append([]int64{impl.TyNone, 5}, taken...), Locals: fullLocals()}
			fine := true
			for k, kind := range taken {
				fine = fine && slices.Contains(c.takes[k], kind)
			}
			if !fine {
				checkEffect(t, i, before, impl.State{}, false)
				continue
			}
			after := append([]int64{impl.TyNone, 5}, c.puts(taken)...)
			checkEffect(t, i, before, impl.State{Stack: after, Locals: localsBehind(i, taken)}, true)
		}
	}
	if len(asked) != 20 {
		t.Errorf("only %d Ops are asked", len(asked))
	}
}

// TestPromise7EffectHowManyOnTheStack asks with one too few, with just enough, and with as many behind it as there may be, and one more.
func TestPromise7EffectHowManyOnTheStack(t *testing.T) {
	for _, c := range opCases() {
		i := insnOf(t, c.text)
		taken := []int64{}
		for _, allowed := range c.takes {
			taken = append(taken, allowed[len(allowed)-1])
		}
		for few := range len(taken) {
			checkEffect(t, i, impl.State{Stack: taken[len(taken)-few:], Locals: fullLocals()}, impl.State{}, false)
			checkEffect(t, i, impl.State{Stack: taken[:few], Locals: fullLocals()}, impl.State{}, false)
		}
		for below := range 10 {
			rest := []int64{0, impl.TyInt, impl.TyNone, 5, impl.TyNull, 3, 2, 1, 4, 0}[:below]
			before := impl.State{Stack: slices.Concat(rest, taken), Locals: fullLocals()}
			after := impl.State{Stack: slices.Concat(rest, c.puts(taken)), Locals: localsBehind(i, taken)}
			fine := len(before.Stack) <= impl.MaxStack && len(after.Stack) <= impl.MaxStack
			if !fine {
				after = impl.State{}
			}
			checkEffect(t, i, before, after, fine)
		}
	}
	full := func(n int) impl.State {
		return impl.State{Stack: slices.Repeat([]int64{impl.TyInt}, n), Locals: fullLocals()}
	}
	for _, text := range []string{"a1", "b1", "h"} {
		checkEffect(t, insnOf(t, text), full(7), full(8), true)
		checkEffect(t, insnOf(t, text), full(8), impl.State{}, false)
	}
	for _, text := range []string{"j", "k0"} {
		checkEffect(t, insnOf(t, text), full(8), full(8), true)
	}
}

func TestPromise7EffectOfLocals(t *testing.T) {
	for local := range int64(8) {
		for _, kind := range kindsIn(family()) {
			s := stateOf([]int64{1}, fullLocals()...)
			s.Locals[local] = kind
			loaded := twinState(s)
			loaded.Stack = append(loaded.Stack, kind)
			fine := kind != impl.TyNone
			if !fine {
				loaded = impl.State{}
			}
			checkEffect(t, impl.Insn{Op: impl.OpLoad, A: local}, s, loaded, fine)
			stored := stateOf([]int64{1, kind}, fullLocals()...)
			want := stateOf([]int64{1}, s.Locals...)
			checkEffect(t, impl.Insn{Op: impl.OpStore, A: local}, stored, want, true)
		}
	}
}

// TestPromise7EffectWhatIsNotThere asks with a Stack that would do for everything else.
func TestPromise7EffectWhatIsNotThere(t *testing.T) {
	null := impl.State{Stack: []int64{impl.TyNull, impl.TyNull, impl.TyNull}, Locals: fullLocals()}
	for why, texts := range map[string][]string{
		"a field past the last":              {"o0,2", "p0,2", "o0,3", "p0,3", "o4,3", "p4,3"},
		"a field that only its Super has":    {"o2,1", "p2,1"},
		"a field of a class without any":     {"o1,0", "p1,0", "o5,0", "p5,0"},
		"a name that only a class below has": {"q0,7", "q2,4", "q2,8", "q0,8"},
		"a name that nobody has":             {"q0,1", "q1,0", "q3,0", "q3,3", "q4,1", "q4,18", "q5,1", "q5,19", "q1,19", "q3,19"},
	} {
		for _, text := range texts {
			i := insnOf(t, text)
			if got, is := impl.Effect(family(), 4, 4, i, null); is || !sameState(got, impl.State{}) {
				t.Errorf("%s: Effect of %s = %v, %v", why, text, got, is)
			}
		}
	}
	for n := 1; n < 6; n++ {
		p := tree(slices.Repeat([]int64{-1}, n), map[int64][]int64{0: {0, 1, 2, 3, 4}})
		for k := range p.Classes {
			p.Classes[k].Fields = []int64{0}
		}
		for class := range int64(6) {
			for text, after := range map[string]impl.State{
				fmt.Sprintf("n%d", class):   stateOf([]int64{impl.TyNull, impl.TyNull, class}, 0),
				fmt.Sprintf("o%d,0", class): stateOf([]int64{impl.TyNull, 0}, 0),
				fmt.Sprintf("p%d,0", class): stateOf(nil, 0),
				fmt.Sprintf("q%d,0", class): stateOf([]int64{impl.TyNull, impl.TyInt}, 0),
			} {
				fine := class < int64(n)
				if !fine {
					after = impl.State{}
				}
				got, is := impl.Effect(p, 0, 0, insnOf(t, text), stateOf([]int64{impl.TyNull, impl.TyNull}, 0))
				if is != fine || !sameState(got, after) {
					t.Errorf("of %d classes: Effect of %s = %v, %v", n, text, got, is)
				}
			}
		}
	}
}

// TestPromise7EffectOfGive asks in each method, with each kind.
func TestPromise7EffectOfGive(t *testing.T) {
	p := family()
	l := latticeIn(p)
	for _, at := range methodsOf(p) {
		m, _ := impl.MethodOf(p, at[0], at[1])
		for _, kind := range kindsIn(p) {
			s, want, fine := stateOf([]int64{5, kind}, 1), stateOf([]int64{5}, 1), l.fit(kind, m.Gives)
			if !fine {
				want = impl.State{}
			}
			if got, is := impl.Effect(p, at[0], at[1], impl.Insn{Op: impl.OpGive}, s); is != fine || !sameState(got, want) {
				t.Errorf("Effect of OpGive of %d in %v = %v, %v", kind, at, got, is)
			}
		}
	}
}

func TestPromise7EffectOfWhatIsNotRight(t *testing.T) {
	right := stateOf([]int64{impl.TyInt, impl.TyInt}, fullLocals()...)
	zero := impl.State{}
	for _, i := range wrongInsns() {
		checkEffect(t, i, right, zero, false)
		checkEffect(t, i, zero, zero, false)
	}
	none := func(n int) []int64 { return slices.Repeat([]int64{impl.TyInt}, n) }
	for why, s := range map[string]impl.State{
		"the zero State":            zero,
		"7 Locals":                  {Stack: none(2), Locals: none(7)},
		"9 Locals":                  {Stack: none(2), Locals: none(9)},
		"9 on the Stack":            {Stack: none(9), Locals: none(8)},
		"very many on the Stack":    {Stack: none(100000), Locals: none(8)},
		"no kind below":             {Stack: []int64{6, impl.TyInt, impl.TyInt}, Locals: none(8)},
		"no kind, below TyNone":     {Stack: []int64{-4, impl.TyInt, impl.TyInt}, Locals: none(8)},
		"no kind on top":            {Stack: []int64{impl.TyInt, math.MaxInt64}, Locals: none(8)},
		"no kind in the last local": {Stack: none(2), Locals: append(none(7), 6)},
		"no kind in a local":        {Stack: none(2), Locals: append([]int64{math.MinInt64}, none(7)...)},
	} {
		for _, c := range stepCases() {
			if got, is := impl.Effect(family(), 4, 4, c.insn, s); is || !sameState(got, zero) {
				t.Errorf("%s: Effect of %s = %v, %v", why, c.text, got, is)
			}
		}
	}
	push := impl.Insn{Op: impl.OpPush}
	for _, class := range someClasses(family()) {
		for _, name := range someNames() {
			fine := isThere(family(), class) && ownsName(family(), class, name)
			if got, is := impl.Effect(family(), class, name, push, right); is != fine || !fine && !sameState(got, zero) {
				t.Errorf("in method %d of class %d: Effect = %v, %v", name, class, got, is)
			}
		}
	}
	for why, p := range wrongFamilies(t) {
		for _, s := range []impl.State{right, stateOf([]int64{impl.TyInt, impl.TyInt}, impl.TyInt)} {
			if got, is := impl.Effect(p, 0, 0, push, s); is || !sameState(got, zero) {
				t.Errorf("%s: Effect = %v, %v", why, got, is)
			}
		}
	}
}

func TestPromise7Entry(t *testing.T) {
	p := family()
	for _, c := range []struct {
		why         string
		class, name int64
		want        impl.State
	}{
		{"where it begins", 0, 0, stateOf(nil, 0)},
		{"two Args", 0, 3, stateOf(nil, 0, impl.TyInt, 0)},
		{"no Args", 0, 19, stateOf(nil, 0)},
		{"one Arg, its own class", 2, 7, stateOf(nil, 2, 2)},
		{"its own, not the one above", 4, 7, stateOf(nil, 4, 2)},
		{"as many Args as may be", 4, 4, stateOf(nil, 4, 1, 2, 3)},
		{"the last class", 5, 0, stateOf(nil, 5, 5)},
	} {
		if got, is := impl.Entry(p, c.class, c.name); !is || !sameState(got, c.want) || !impl.StateOk(p, got) {
			t.Errorf("%s: Entry(%d, %d) = %v, %v", c.why, c.class, c.name, got, is)
		}
	}
}

// A frameCase is asked in class 0's method 0 of soundFamily, which gives TyInt; shown are the Stack and the Locals up to the last that is not TyNone, of each that is reached.
type frameCase struct {
	why  string
	text string
	want []string
}

// shownStates writes TyInt, TyNull and TyNone as i, n and -, and is empty of one that is not reached.
func shownStates(states []impl.State, reached []int64) []string {
	kind := func(list []int64) string {
		text := ""
		for _, k := range list {
			text += string("-ni012345"[k+3])
		}
		return text
	}
	shown := []string{}
	for k, s := range states {
		line := ""
		if reached[k] == 1 {
			line = kind(s.Stack) + "|" + strings.TrimRight(kind(s.Locals), "-")
		}
		shown = append(shown, line)
	}
	return shown
}

func frameCases() []frameCase {
	return []frameCase{
		{"straight on", "a1 t", []string{"|0", "i|0"}},
		{"more than is given", "n4 a1 t", []string{"|0", "4|0", "4i|0"}},
		{"ahead, over one that can't be", "k3 d o1,0 a1 t", []string{"|0", "", "", "|0", "i|0"}},
		{"ahead, over one that goes on to there with more", "k2 a1 a1 t", []string{"|0", "", "|0", "i|0"}},
		{"back", "a1 l0 k0", []string{"|0", "i|0", "|0"}},
		{"to itself", "k0", []string{"|0"}},
		{"to itself with something on the Stack", "m k1", []string{"|0", "n|0"}},
		{"to itself, never behind it", "a1 k1 d", []string{"|0", "i|0", ""}},
		{"one that is never reached goes to itself", "a1 t l2", []string{"|0", "i|0", ""}},
		{"to the next one", "k1 a1 l3 a1 t", []string{"|0", "|0", "i|0", "|0", "i|0"}},
		{"behind what gives", "a1 t a1 t", []string{"|0", "i|0", "", ""}},
		{"the last one is never reached and goes on", "a1 t a1", []string{"|0", "i|0", ""}},
		{"the last one is never reached and may go on", "a1 t l0", []string{"|0", "i|0", ""}},
		{"never reached: what is not there", "a1 t n5 o1,0 q1,0 p2,3", []string{"|0", "i|0", "", "", "", ""}},
		{"joined on the Stack: a class and one above", "a1 l4 n4 k5 n2 q2,0 t", []string{"|0", "i|0", "|0", "4|0", "|0", "2|0", "i|0"}},
		{"joined on the Stack: two classes below one", "a1 l4 n4 k5 b0 q0,0 t", []string{"|0", "i|0", "|0", "4|0", "|0", "0|0", "i|0"}},
		{"joined on the Stack: null and a class", "a1 l4 m k5 n3 q1,1 t", []string{"|0", "i|0", "|0", "n|0", "|0", "3|0", "i|0"}},
		{"joined on the Stack: null and null", "a1 l4 m k5 m r t", []string{"|0", "i|0", "|0", "n|0", "|0", "n|0", "i|0"}},
		{"joined on the Stack: what has nothing above", "a1 l4 n5 k5 n3 i a1 t", []string{"|0", "i|0", "|0", "5|0", "|0", "-|0", "|0", "i|0"}},
		{"joined on the Stack: a number and null", "a1 l4 a1 k5 m h j c2 i a1 t", []string{"|0", "i|0", "|0", "i|0", "|0", "-|0", "--|0", "--|0", "-|0", "|0", "i|0"}},
		{"joined on the Stack, each place", "a1 l5 n4 n5 k7 n2 m i q2,0 t", []string{"|0", "i|0", "|0", "4|0", "45|0", "|0", "2|0", "25|0", "2|0", "i|0"}},
		{"joined in a local", "a1 l5 n4 c1 k7 n2 c1 b1 q2,0 t", []string{"|0", "i|0", "|0", "4|0", "|04", "|0", "2|0", "|02", "2|02", "i|02"}},
		{"joined in a local: stored on one way only", "a1 l4 n4 c1 a1 t", []string{"|0", "i|0", "|0", "4|0", "|0", "i|0"}},
		{"joined in a local: what was there is gone", "a1 l4 n5 c0 a1 t", []string{"|0", "i|0", "|0", "5|0", "|", "i|"}},
		{"joined in the last local", "a1 l5 m c7 k7 n1 c7 b7 i a1 t", []string{"|0", "i|0", "|0", "n|0", "|0------n", "|0", "1|0", "|0------1", "1|0------1", "|0------1", "i|0------1"}},
		{"a loop joins what comes back", "n4 c1 b1 i n2 c1 k2", []string{"|0", "4|0", "|02", "2|02", "|02", "2|02", "|02"}},
		{"a loop goes round thrice", "n4 c1 n4 c2 n4 c3 b2 c1 b3 c2 n0 c3 k6", []string{"|0", "4|0", "|04", "4|04", "|044", "4|044", "|0000", "0|0000", "|0000", "0|0000", "|0000", "0|0000", "|0000"}},
		{"a loop from null on", "m c1 a1 l7 n4 c1 k2 b1 r t", []string{"|0", "n|0", "|04", "i|04", "|04", "4|04", "|04", "|04", "4|04", "i|04"}},
		{"a loop with as many on the Stack", "m a1 l6 i n3 k1 a1 t", []string{"|0", "3|0", "3i|0", "3|0", "|0", "3|0", "3|0", "3i|0"}},
		{"unlike on the Stack: one less", "a1 l3 a1 a1 t", nil},
		{"unlike on the Stack: coming back", "a1 k0", nil},
		{"unlike on the Stack: to itself", "a1 l1", nil},
		{"unlike on the Stack: from none that is reached", "a1 t a1 k0", []string{"|0", "i|0", "", ""}},
		{"behind the last one", "a1", nil},
		{"behind the last one, jumped there", "k2 t a1", nil},
		{"behind the last one, where it is not 0", "a1 l0", nil},
		{"behind the last one, on one way of two", "a1 l4 a1 t a1", nil},
		{"behind the last one, with nothing on the Stack", "a1 s", nil},
		{"an Effect is false: at the first", "d", nil},
		{"an Effect is false: gives another kind", "m t", nil},
		{"an Effect is false: gives with nothing", "t", nil},
		{"an Effect is false: behind a jump", "k2 a1 t", nil},
		{"an Effect is false: on one way of two", "a1 l4 a1 t n0 t", nil},
		{"an Effect is false: on the other way of two", "a1 l4 n0 t a1 t", nil},
		{"an Effect is false: at a local that is joined away", "a1 l5 n4 c1 k7 n5 c1 b1 i a1 t", nil},
		{"an Effect is false: at a local of one way only", "a1 l4 n4 c1 b1 i a1 t", nil},
		{"an Effect is false: a class above what is wanted", "a1 l4 n4 k5 n2 q4,8 i a1 t", nil},
		{"an Effect is false: the second time round", "n4 c1 b1 i n5 c1 k2", nil},
		{"an Effect is false: the fourth time round", "n4 c1 n4 c2 n4 c3 b1 q4,8 i b2 c1 b3 c2 n0 c3 k6", nil},
		{"as much on the Stack as may be", "m m m m m m m a1 t", []string{"|0", "n|0", "nn|0", "nnn|0", "nnnn|0", "nnnnn|0", "nnnnnn|0", "nnnnnnn|0", "nnnnnnni|0"}},
		{"one more on the Stack", "m m m m m m m m a1 t", nil},
		{"one more on the Stack, in a loop", "m k0", nil},
	}
}

func TestPromise7Frames(t *testing.T) {
	for _, c := range frameCases() {
		p := coded(t, 0, 0, c.text)
		states, reached, is := impl.Frames(p, 0, 0)
		if is != (c.want != nil) || !slices.Equal(shownStates(states, reached), c.want) {
			t.Errorf("%s: Frames of %s = %q, %v, want %q", c.why, c.text, shownStates(states, reached), is, c.want)
			continue
		}
		if impl.Accepts(p, 0, 0) != is || impl.Sound(p) != is {
			t.Errorf("%s: Accepts = %v, Sound = %v, of %s", c.why, impl.Accepts(p, 0, 0), impl.Sound(p), c.text)
		}
		checkMethodFrames(t, p, 0, 0)
		if is {
			checkNoLesser(t, p, 0, 0, states, reached)
		}
	}
}

// TestPromise7FramesOfLongCode goes along as many Insns as there may be, ahead and back.
func TestPromise7FramesOfLongCode(t *testing.T) {
	for _, c := range []struct {
		text string
		want bool
	}{
		{"a1" + steps(38, "k1") + " t", true},
		{"a1" + steps(19, "h i") + " t", true},
		{"a1" + steps(19, "h s") + " t", true},
		{"k39" + steps(38, "d") + " k0", true},
		{"a1" + steps(39, "h"), false},
		{steps(20, "a1 i")[1:], false},
	} {
		p := coded(t, 0, 0, c.text)
		if got := impl.Sound(p); got != c.want || impl.Accepts(p, 0, 0) != c.want {
			t.Errorf("Sound = %v, of %s", got, c.text)
		}
		checkMethodFrames(t, p, 0, 0)
	}
	// What is stored last goes back through all locals, one a round.
	shift := "n4 c1 n4 c2 n4 c3 n4 c4 n4 c5 n4 c6 n4 c7 b2 c1 b3 c2 b4 c3 b5 c4 b6 c5 b7 c6 n0 c7 b1 q0,0 l14 a1 t"
	p := coded(t, 0, 0, shift)
	states, reached, is := impl.Frames(p, 0, 0)
	if got := shownStates(states, reached); !is || got[13] != "4|0444444" || got[14] != "|00000000" || !impl.Sound(p) {
		t.Errorf("Frames = %q, %v", got, is)
	}
	checkMethodFrames(t, p, 0, 0)
	checkNoLesser(t, p, 0, 0, states, reached)
	if impl.Sound(coded(t, 0, 0, strings.ReplaceAll(shift, "q0,0", "q2,0"))) {
		t.Error("local 1 is of class 0 in the end")
	}
}

// TestPromise7FramesBeginWithTheArgs asks in methods that take and give other kinds.
func TestPromise7FramesBeginWithTheArgs(t *testing.T) {
	for _, c := range []struct {
		why         string
		class, name int64
		text        string
		want        []string
	}{
		{"an Arg that is given", 2, 7, "b1 t", []string{"|22", "2|22"}},
		{"itself, below what it gives", 4, 7, "b0 t", []string{"|42", "4|42"}},
		{"itself, above what it gives", 0, 3, "b0 t", nil},
		{"the last of three Args", 4, 4, "b3 t", []string{"|4123", "3|4123"}},
		{"the first of three Args", 4, 4, "b1 t", nil},
		{"a local behind the Args", 4, 4, "b4 t", nil},
		{"null for a class", 4, 8, "m t", []string{"|4", "n|4"}},
		{"null for a number", 1, 1, "m t", nil},
		{"a number for a class", 4, 8, "a1 t", nil},
		{"what a field is", 4, 8, "b0 o0,1 t", []string{"|4", "4|4", "5|4"}},
		{"what a field is, another one", 4, 8, "b0 o0,0 t", nil},
		{"put into a field", 2, 7, "b0 b1 p2,0 b1 t", []string{"|22", "2|22", "22|22", "|22", "2|22"}},
		{"put into a field, the wrong way", 0, 3, "b1 b0 p0,0 m t", nil},
		{"what a call gives", 4, 4, "b0 b1 b2 b3 q4,4 t", []string{"|4123", "4|4123", "41|4123", "412|4123", "4123|4123", "3|4123"}},
		{"what a call takes, the wrong way", 4, 4, "b0 b3 b2 b1 q4,4 t", nil},
		{"an Arg is joined away", 4, 7, "a1 l4 a1 c1 b1 t", nil},
		{"an Arg is stored over by one that fits", 4, 7, "a1 l4 b0 c1 b1 t", []string{"|42", "i|42", "|42", "4|42", "|42", "2|42"}},
	} {
		p := coded(t, c.class, c.name, c.text)
		states, reached, is := impl.Frames(p, c.class, c.name)
		if is != (c.want != nil) || !slices.Equal(shownStates(states, reached), c.want) {
			t.Errorf("%s: Frames of %s = %q, %v, want %q", c.why, c.text, shownStates(states, reached), is, c.want)
			continue
		}
		if impl.Accepts(p, c.class, c.name) != is || impl.Sound(p) != is {
			t.Errorf("%s: Accepts = %v, Sound = %v", c.why, impl.Accepts(p, c.class, c.name), impl.Sound(p))
		}
		checkMethodFrames(t, p, c.class, c.name)
		if is {
			checkNoLesser(t, p, c.class, c.name, states, reached)
		}
	}
}

// TestPromise7SoundAsksAll makes one method wrong at a time.
func TestPromise7SoundAsksAll(t *testing.T) {
	if p := soundFamily(); !impl.Sound(p) || !impl.Sound(lone()) {
		t.Error("sound ones are not Sound")
	}
	methods := methodsOf(soundFamily())
	for _, at := range methods {
		p := coded(t, at[0], at[1], "d")
		if impl.Sound(p) {
			t.Errorf("Sound, with method %d of class %d wrong", at[1], at[0])
		}
		for _, other := range methods {
			if got := impl.Accepts(p, other[0], other[1]); got != (other != at) {
				t.Errorf("Accepts(%d, %d) = %v, with method %d of class %d wrong", other[0], other[1], got, at[1], at[0])
			}
		}
	}
}

// checkRefused asks that every function of the chapter gives its one fixed answer.
func checkRefused(t *testing.T, why string, p impl.Program, class int64, name int64) {
	t.Helper()
	if got, is := impl.Entry(p, class, name); is || !sameState(got, impl.State{}) {
		t.Errorf("%s: Entry(%d, %d) = %v, %v", why, class, name, got, is)
	}
	if states, reached, is := impl.Frames(p, class, name); is || len(states) != 0 || len(reached) != 0 {
		t.Errorf("%s: Frames(%d, %d) = %v, %v, %v", why, class, name, states, reached, is)
	}
	if impl.Accepts(p, class, name) {
		t.Errorf("%s: Accepts(%d, %d)", why, class, name)
	}
	for _, c := range stepCases() {
		for _, s := range []impl.State{stateOf([]int64{impl.TyInt, impl.TyInt}), stateOf([]int64{impl.TyNull}, impl.TyInt)} {
			if got, is := impl.Effect(p, class, name, c.insn, s); is || !sameState(got, impl.State{}) {
				t.Errorf("%s: Effect(%d, %d) of %s = %v, %v", why, class, name, c.text, got, is)
			}
		}
	}
}

func TestPromise7WhatIsNotThere(t *testing.T) {
	p := soundFamily()
	for _, class := range someClasses(p) {
		for _, name := range someNames() {
			if isThere(p, class) && ownsName(p, class, name) {
				if _, _, is := impl.Frames(p, class, name); !is || !impl.Accepts(p, class, name) {
					t.Errorf("Frames(%d, %d) = %v", class, name, is)
				}
				continue
			}
			checkRefused(t, "no such method", p, class, name)
		}
	}
}

func TestPromise7WrongPrograms(t *testing.T) {
	for why, p := range wrongFamilies(t) {
		if impl.Sound(p) {
			t.Errorf("%s: Sound", why)
		}
		for _, class := range []int64{-1, 0, 1, 4, 5, 6} {
			for _, name := range []int64{-1, 0, 1, 3, 20} {
				checkRefused(t, why, p, class, name)
			}
		}
	}
	if p := (impl.Program{}); impl.Sound(p) || impl.Accepts(p, 0, 0) {
		t.Error("the zero Program is Sound")
	}
}

// spoilList writes into a list and into the room behind it.
func spoilList(list []int64) {
	list = list[:cap(list)]
	for k := range list {
		list[k] = 77
	}
}

func twinStates(states []impl.State) []impl.State {
	var out []impl.State
	for _, s := range states {
		out = append(out, twinState(s))
	}
	return out
}

// listsOf are all lists of numbers in an answer of Frames.
func listsOf(states []impl.State, reached []int64) [][]int64 {
	lists := [][]int64{reached}
	for _, s := range states {
		lists = append(lists, s.Stack, s.Locals)
	}
	return lists
}

// checkNoneShared writes into one list after the other, and looks at those that nothing was written into yet.
func checkNoneShared(t *testing.T, why string, lists [][]int64) {
	t.Helper()
	var want [][]int64
	for _, list := range lists {
		want = append(want, slices.Clone(list))
	}
	for k, list := range lists {
		if !slices.Equal(list, want[k]) {
			t.Fatalf("%s: list %d shares memory with one ahead of it", why, k)
		}
		spoilList(list)
	}
}

// memoryPrograms have methods of all kinds, States that come to two numbers unchanged among them.
func memoryPrograms(t *testing.T) []impl.Program {
	programs := []impl.Program{lone(), family(), soundFamily(), coded(t, 0, 0, "m m a1 l4 k0 i i a1 t")}
	for _, c := range frameCases() {
		programs = append(programs, coded(t, 0, 0, c.text))
	}
	for _, text := range []string{"n4 a1 l3 a1 t", "n4 c1 k3 k2 a1 t", "m a1 l5 k1 d a1 t", "b0 k2 k3 k4 r t"} {
		programs = append(programs, coded(t, 0, 0, text))
	}
	for seed := range uint64(150) {
		programs = append(programs, drawnRightProgram(seed))
	}
	return programs
}

func TestPromise21CheckerAnswersAreNewMemory(t *testing.T) {
	for _, p := range memoryPrograms(t) {
		kept := twin(p)
		for _, at := range methodsOf(p) {
			entry, _ := impl.Entry(p, at[0], at[1])
			wantEntry := twinState(entry)
			checkNoneShared(t, "Entry", [][]int64{entry.Stack, entry.Locals})
			if again, is := impl.Entry(p, at[0], at[1]); !is || !sameState(again, wantEntry) || !sameProgram(p, kept) {
				t.Fatalf("Entry(%d, %d) again = %v, %v", at[0], at[1], again, is)
			}
			states, reached, is := impl.Frames(p, at[0], at[1])
			second, secondReached, _ := impl.Frames(p, at[0], at[1])
			want, wantReached := twinStates(states), slices.Clone(reached)
			checkNoneShared(t, "Frames", listsOf(states, reached))
			for k := range states[:cap(states)] {
				states[:cap(states)][k] = impl.State{Stack: []int64{77}}
			}
			third, thirdReached, still := impl.Frames(p, at[0], at[1])
			if still != is || !sameStates(second, want) || !sameStates(third, want) || !slices.Equal(secondReached, wantReached) || !slices.Equal(thirdReached, wantReached) || !sameProgram(p, kept) {
				t.Fatalf("Frames(%d, %d) = %v, and again %v, want %v", at[0], at[1], second, third, want)
			}
			m, _ := impl.MethodOf(p, at[0], at[1])
			for k, s := range want {
				checkEffectMemory(t, p, at, m.Code[k], s)
			}
		}
	}
	for _, c := range opCases() {
		i := insnOf(t, c.text)
		for _, s := range []impl.State{{Stack: []int64{4, 3, impl.TyNull}, Locals: fullLocals()}, {Stack: []int64{0, impl.TyInt, impl.TyInt}, Locals: fullLocals()}, {Locals: fullLocals()}} {
			checkEffectMemory(t, family(), [2]int64{4, 4}, i, s)
		}
	}
}

// checkEffectMemory writes into what Effect answers.
func checkEffectMemory(t *testing.T, p impl.Program, at [2]int64, i impl.Insn, plain impl.State) {
	t.Helper()
	s, kept := twinState(plain), twin(p)
	after, is := impl.Effect(p, at[0], at[1], i, s)
	second, _ := impl.Effect(p, at[0], at[1], i, s)
	want := twinState(after)
	checkNoneShared(t, "Effect", [][]int64{after.Stack, after.Locals})
	third, still := impl.Effect(p, at[0], at[1], i, s)
	if still != is || !sameState(second, want) || !sameState(third, want) || !sameState(s, plain) || !sameProgram(p, kept) {
		t.Fatalf("Effect of %v in %v = %v, and again %v, want %v", i, plain, second, third, want)
	}
}

func TestPromise21CheckerLeavesArguments(t *testing.T) {
	programs := append(memoryPrograms(t), impl.Program{}, row())
	for seed := range uint64(100) {
		programs = append(programs, drawnProgram(seed))
	}
	for at, plain := range programs {
		p, whole := roomy(plain)
		_, want := roomy(plain)
		impl.Sound(p)
		next := drawer(uint64(at))
		for _, class := range someClasses(p) {
			for _, name := range []int64{math.MinInt64, -1, 0, 1, 2, 3, 19, 20, math.MaxInt64} {
				impl.Entry(p, class, name)
				impl.Frames(p, class, name)
				impl.Accepts(p, class, name)
			}
		}
		for _, of := range append(methodsOf(p), [2]int64{-1, 0}, [2]int64{0, 20}) {
			for k := range uint64(40) {
				one := drawnState(uint64(at)*41+k, plain, next(10))
				s, in := roomyState(one)
				_, wantIn := roomyState(one)
				i := impl.Insn{Op: impl.OpStore, A: int64(next(8))}
				if len(p.Classes) > 0 && k%4 > 0 {
					i = drawnInsn(next, p)
				}
				impl.Effect(p, of[0], of[1], i, s)
				if !reflect.DeepEqual(in, wantIn) {
					t.Fatal(fmt.Sprint("a state, or the room behind it, is changed by ", i, ": ", one))
				}
			}
		}
		if !sameProgram(p, plain) || !reflect.DeepEqual(whole, want) {
			t.Fatal(fmt.Sprint("a program, or the room behind it, is changed: ", plain))
		}
	}
}

// TestPromise21CheckerAnswersAlways asks with numbers and states from everywhere, right and wrong.
func TestPromise21CheckerAnswersAlways(t *testing.T) {
	numbers := []int64{math.MinInt64, -1 << 32, -4, -3, -2, -1, 0, 1, 3, 4, 5, 6, 7, 8, 19, 20, 39, 40, 1 << 32, math.MaxInt64}
	states := []impl.State{{}, stateOf(nil), stateOf([]int64{impl.TyNull, impl.TyNull, impl.TyNull, impl.TyNull}), stateOf(slices.Repeat([]int64{impl.TyInt}, 8), 0), stateOf([]int64{5, 6}), {Stack: []int64{1, 1}, Locals: []int64{0}}}
	programs := []impl.Program{{}, lone(), family()}
	for _, p := range wrongFamilies(t) {
		programs = append(programs, p)
	}
	for _, p := range programs {
		right := wrongWith(p) == ""
		for op := int64(-1); op < 23; op++ {
			for _, a := range numbers {
				for _, b := range numbers {
					i := impl.Insn{Op: op, A: a, B: b}
					for _, s := range states {
						if after, is := impl.Effect(p, 0, 0, i, s); is && (!right || !impl.InsnOk(i) || !impl.StateOk(p, s) || !impl.StateOk(p, after)) {
							t.Fatalf("Effect of %v in %v = %v", i, s, after)
						}
					}
				}
				impl.Frames(p, op, a)
				impl.Entry(p, a, op)
				impl.Accepts(p, a, a)
			}
		}
	}
}
