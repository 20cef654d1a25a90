package tests

import (
	"math"
	"slices"
	"testing"

	"loop.example/g00334/impl"
)

// drawnKeep rises, of numbers below n.
func drawnKeep(next func(int) int, n int) []int64 {
	often := 1 + next(4)
	return slices.DeleteFunc(numbersBelow(int64(n)), func(int64) bool { return next(often) > 0 })
}

// drawnNumbers are of methods, there or not, in any order, some of them twice.
func drawnNumbers(next func(int) int, p impl.Program) []int64 {
	var all []int64
	numbers := methodNumbers(p)
	for range next(10) {
		switch next(6) {
		case 0:
			all = append(all, int64(next(200)-40))
		case 1:
			all = append(all, []int64{math.MinInt64, -1, 120, 1<<32 + 21, math.MaxInt64}[next(5)])
		default:
			all = append(all, numbers[max(next(len(numbers)+1)-1, 0)])
		}
	}
	return all
}

// A harvest counts what was met with.
type harvest struct {
	programs, sound, without, classesGone, moved, methodsGone, idle, written, brought, asked int
	ended                                                                                    map[int64]int
}

// check shrinks a program with nothing kept, with all, and with what is drawn.
func (all *harvest) check(t *testing.T, p impl.Program, next func(int) int) {
	t.Helper()
	all.programs++
	if impl.Sound(p) {
		all.sound++
	}
	methods := drawnNumbers(next, p)
	checkWithout(t, p, methods)
	all.without += len(methodNumbers(p)) - len(methodNumbers(impl.Without(p, methods)))
	n := len(p.Classes)
	for _, c := range [][2][]int64{
		{nil, nil}, {numbersBelow(int64(n)), numbersBelow(20)}, {nil, numbersBelow(20)}, {numbersBelow(int64(n)), nil},
		{drawnKeep(next, n), drawnKeep(next, 20)}, {drawnKeep(next, n), {0, 1, 2, 3, 7}}, {drawnKeep(next, n), drawnKeep(next, 8)},
	} {
		checkNewNumbers(t, p, c[0])
		got, told := checkShrunk(t, p, c[0], c[1])
		all.count(p, got, told)
		all.brought += len(keptTogether(p, c[0])) - len(c[0])
		// These stay only because what goes is asked, too.
		all.asked += len(got.Classes) - len(stayTold(told.less, c[0]))
	}
	all.ended[impl.Ran(p, 400).End]++
}

func (all *harvest) count(p impl.Program, got impl.Program, told shrink) {
	all.classesGone += len(p.Classes) - len(got.Classes)
	all.methodsGone += len(methodNumbers(p)) - len(methodNumbers(got))
	for k, number := range told.numbers {
		if number >= 0 && number < int64(k) {
			all.moved++
		}
	}
	for n, m := range tellerOf(told.less).methods {
		if !told.live[n] {
			all.idle++
			continue
		}
		for _, i := range told.code(n/20, m) {
			if !slices.Contains(m.Code, i) {
				all.written++
			}
		}
	}
}

func (all *harvest) checkEnough(t *testing.T, least harvest) {
	t.Helper()
	for what, counts := range map[string][2]int{
		"programs": {all.programs, least.programs}, "Sound ones": {all.sound, least.sound}, "methods left out": {all.without, least.without},
		"classes gone": {all.classesGone, least.classesGone}, "classes with lesser numbers": {all.moved, least.moved}, "methods gone": {all.methodsGone, least.methodsGone},
		"methods kept that are not reached": {all.idle, least.idle}, "steps that are not as they were": {all.written, least.written}, "classes brought by others": {all.brought, least.brought},
		"classes that only methods name that go": {all.asked, least.asked},
	} {
		if counts[0] < counts[1] {
			t.Errorf("only %d %s", counts[0], what)
		}
	}
	for end, n := range least.ended {
		if all.ended[end] < n {
			t.Errorf("only %d ended by %d", all.ended[end], end)
		}
	}
}

func TestPromise16WhatIsShrunkIsTheSame(t *testing.T) {
	all := harvest{ended: map[int64]int{}}
	for seed := range uint64(200) {
		next := drawer(seed + 477)
		for _, p := range []impl.Program{livelyProgram(seed), repeating(seed, livelyProgram(seed)), muddled(seed), sprawling(seed), sprawling(seed + 1000)} {
			all.check(t, p, next)
		}
	}
	all.checkEnough(t, harvest{programs: 1000, sound: 80, without: 2000, classesGone: 1000, moved: 500, methodsGone: 10000, idle: 5000, written: 2000, brought: 1500, asked: 60,
		ended: map[int64]int{impl.EnRuns: 30, impl.EnGave: 100, impl.EnZero: 8, impl.EnNull: 30, impl.EnFull: 10, impl.EnStuck: 300}})
}

func TestPromise16WhatIsSoundStaysSound(t *testing.T) {
	all := harvest{ended: map[int64]int{}}
	for seed := range uint64(200) {
		next := drawer(seed + 577)
		for _, p := range []impl.Program{errands(seed), chorus(seed), repeating(seed, chorus(seed)), soundPart(seed), padded(seed, errands(seed)), padded(seed, chorus(seed))} {
			all.check(t, p, next)
		}
	}
	all.checkEnough(t, harvest{programs: 1200, sound: 1000, without: 3000, classesGone: 1000, moved: 500, methodsGone: 3000, idle: 2000, written: 1000, brought: 1000, asked: 400,
		ended: map[int64]int{impl.EnGave: 300, impl.EnDeep: 20, impl.EnNull: 20}})
}

// paddedOnce has one class more, which nobody needs, and those behind it with a number more; it wants a program that names only what is there.
func paddedOnce(next func(int) int, p impl.Program) impl.Program {
	p = twin(p)
	at := int64(1 + next(len(p.Classes)))
	behind := func(class *int64) {
		if *class >= at {
			*class++
		}
	}
	for k := range p.Classes {
		c := &p.Classes[k]
		behind(&c.Super)
		for f := range c.Fields {
			behind(&c.Fields[f])
		}
		for j := range c.Methods {
			m := &c.Methods[j]
			behind(&m.Gives)
			for a := range m.Args {
				behind(&m.Args[a])
			}
			for n := range m.Code {
				if i := &m.Code[n]; i.Op >= impl.OpNew && i.Op <= impl.OpCall {
					behind(&i.A)
				}
			}
		}
	}
	more := impl.Class{Super: int64(next(int(at)+1) - 1), Fields: []int64{at, impl.TyInt, int64(next(len(p.Classes) + 1))}}
	made := impl.ShowInsn(impl.Insn{Op: impl.OpNew, A: at})
	p.Classes = slices.Insert(p.Classes, int(at), more)
	for k := range p.Classes {
		c := &p.Classes[k]
		// Each time there is one class more: so the name is a new one, and the greatest.
		if len(c.Methods) < 4 && (int64(k) == at || next(3) == 0) {
			c.Methods = append(c.Methods, asks(int64(10+len(p.Classes)), "a9 s "+made+" t", at, at, impl.TyInt))
		}
	}
	// Where one gives, behind it, what is made does not matter.
	for k := range p.Classes {
		for j := range p.Classes[k].Methods {
			if m := &p.Classes[k].Methods[j]; len(m.Code) < 30 && m.Code[len(m.Code)-1].Op == impl.OpGive && next(3) == 0 {
				m.Code = append(m.Code, codeOfInsns(made+" t")...)
			}
		}
	}
	return p
}

// padded has six classes.
func padded(seed uint64, p impl.Program) impl.Program {
	next := drawer(seed + 777)
	for len(p.Classes) < 6 {
		p = paddedOnce(next, p)
	}
	return p
}

// bare has no steps behind the last that is Reached.
func bare(code []impl.Insn) []impl.Insn {
	reached := reachedTold(code)
	return code[:reached[len(reached)-1]+1]
}

// What nobody needs makes no difference, wherever it stands; only the steps that it came with are written over, not cut off.
func TestPromise16WhatIsPaddedIsShrunkTheSame(t *testing.T) {
	moved := 0
	for seed := range uint64(1000) {
		for _, p := range []impl.Program{errands(seed), chorus(seed)} {
			more := padded(seed, p)
			if why := wrongWith(more); why != "" || !impl.Sound(p) || !impl.Sound(more) {
				t.Fatalf("%s is wrong, or not Sound, of %s", why, impl.ShowProgram(more))
			}
			want, got := impl.Shrunk(p, nil, nil), impl.Shrunk(more, nil, nil)
			if !sameProgram(turnedProgram(got, bare), turnedProgram(want, bare)) {
				t.Fatalf("Shrunk = %s, want %s, of %s", impl.ShowProgram(got), impl.ShowProgram(want), impl.ShowProgram(more))
			}
			moved += len(more.Classes) - len(p.Classes)
			a, b := impl.Ran(p, 300), impl.Ran(got, 300)
			if impl.Heard(a) != impl.Heard(b) || impl.Cost(p, 300) != impl.Cost(got, 300) {
				t.Fatalf("heard %q, Shrunk %q, of %s", impl.Heard(a), impl.Heard(b), impl.ShowProgram(more))
			}
		}
	}
	if moved < 2000 {
		t.Errorf("only %d classes put between", moved)
	}
}

// soundPart has each code that is not accepted changed for one that is.
func soundPart(seed uint64) impl.Program {
	p := livelyProgram(seed)
	for _, at := range methodsOf(p) {
		if impl.Accepts(p, at[0], at[1]) {
			continue
		}
		for j := range p.Classes[at[0]].Methods {
			m := &p.Classes[at[0]].Methods[j]
			if m.Name != at[1] {
				continue
			}
			m.Code = codeOfInsns("m t")
			if m.Gives == impl.TyInt {
				m.Code = codeOfInsns("n0 i b0 j i a3 s a4 t")
			}
		}
	}
	return p
}

// TestPromise16EveryTree goes through all rows of Supers of up to four classes, all choices of what is made, and all that may be kept.
func TestPromise16EveryTree(t *testing.T) {
	for n := 1; n <= 4; n++ {
		for _, supers := range everyTree(n) {
			p := tree(supers, map[int64][]int64{7: numbersBelow(int64(n)), 8: {int64(n) - 1}})
			for _, made := range choicesOf(n) {
				text := ""
				for _, k := range made {
					text += impl.ShowInsn(impl.Insn{Op: impl.OpNew, A: k}) + " i "
				}
				p.Classes[0].Methods[0].Code = codeOfInsns(text + "a0 t n0 t")
				for _, keep := range choicesOf(n) {
					checkNewNumbers(t, p, keep)
					checkShrunk(t, p, keep, []int64{8})
				}
			}
		}
	}
}

// TestPromise16TheLeastIsKept holds what a keep brings against all choices of classes that bring nothing they have not.
func TestPromise16TheLeastIsKept(t *testing.T) {
	more := 0
	for seed := range uint64(500) {
		p := sprawling(seed)
		_, _, needed := tellerOf(p).least()
		for _, keep := range choicesOf(len(p.Classes)) {
			in := numberSet{}
			for _, k := range numbersBelow(int64(len(p.Classes))) {
				in[k] = true
			}
			for _, choice := range choicesOf(len(p.Classes)) {
				if isClosed(p, choice) && !slices.ContainsFunc(keep, func(k int64) bool { return !slices.Contains(choice, k) }) {
					in = both(in, listed(choice))
				}
			}
			more += len(in) - len(keep)
			for k := range needed {
				in[k] = true
			}
			if got, want := impl.NewNumbers(p, keep), placesOf(p, in.rising()); !slices.Equal(got, want) {
				t.Fatalf("NewNumbers(%v) = %v, the least is %v, of %s", keep, got, want, impl.ShowProgram(p))
			}
		}
	}
	if more < 3000 {
		t.Errorf("only %d are brought by others", more)
	}
}

func listed(list []int64) numberSet {
	all := numberSet{}
	for _, n := range list {
		all[n] = true
	}
	return all
}

// isClosed tells whether these classes name none but themselves.
func isClosed(p impl.Program, classes []int64) bool {
	for _, k := range classes {
		for _, named := range namedIn(p, k) {
			if !slices.Contains(classes, named) {
				return false
			}
		}
	}
	return true
}

func TestPromise16DrawnPrograms(t *testing.T) {
	right, wrong, refused := 0, 0, 0
	for seed := range uint64(1500) {
		p, next := drawnProgram(seed), drawer(seed+677)
		n := len(p.Classes)
		keep, names := drawnKeep(next, max(n, 1)), drawnKeep(next, 20)
		if why := wrongWith(p); why != "" {
			wrong++
			checkNotShrunk(t, why, p, keep)
			if got := impl.Without(p, numbersIn("1 20 21")); len(got.Classes) != 0 {
				t.Fatalf("%s: Without = %v", why, got)
			}
			continue
		}
		right++
		checkWithout(t, p, drawnNumbers(next, p))
		checkNewNumbers(t, p, keep)
		checkShrunk(t, p, keep, names)
		if loose := looseList(next, n); !isKeep(loose, int64(n)) {
			refused++
			checkNotShrunk(t, "drawn", p, loose)
		}
		if loose := looseList(next, 20); !isKeep(loose, 20) {
			refused++
			if got := impl.Shrunk(p, keep, loose); len(got.Classes) != 0 {
				t.Fatalf("Shrunk(%v, %v) = %v", keep, loose, got)
			}
		}
	}
	if right < 200 || wrong < 200 || refused < 100 {
		t.Errorf("only %d right ones, %d wrong ones, %d refused", right, wrong, refused)
	}
}

// looseList has numbers around those below n, and hardly ever rises.
func looseList(next func(int) int, n int) []int64 {
	var list []int64
	for range 1 + next(4) {
		list = append(list, int64(next(n+4)-2))
	}
	return list
}
