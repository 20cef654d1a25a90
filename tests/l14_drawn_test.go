package tests

import (
	"slices"
	"testing"

	"loop.example/g00334/impl"
)

// sprawling is right, and hardly ever Sound: its methods make, call and look into anything, in steps that are Reached or not.
func sprawling(seed uint64) impl.Program {
	next := drawer(seed + 277)
	n := 1 + next(6)
	kind := func() int64 { return int64(max(next(2*n)-n, -1)) }
	var forms []impl.Method
	for name := int64(0); name < 4; name++ {
		form := impl.Method{Name: []int64{0, 1, 7, 19}[name], Gives: kind()}
		for range next(4) {
			form.Args = append(form.Args, kind())
		}
		forms = append(forms, form)
	}
	forms[0].Args, forms[0].Gives = nil, impl.TyInt
	often := 1 + next(3)
	var p impl.Program
	for k := range n {
		c := impl.Class{Super: int64(next(k+1) - 1)}
		for range next(3) {
			c.Fields = append(c.Fields, kind())
		}
		for name, form := range forms {
			if k+name == 0 || next(often) == 0 {
				m := twinMethod(form)
				m.Code = sprawlingCode(next, n)
				c.Methods = append(c.Methods, m)
			}
		}
		p.Classes = append(p.Classes, c)
	}
	return p
}

func sprawlingCode(next func(int) int, n int) []impl.Insn {
	code := make([]impl.Insn, 1+next(8))
	for at := range code {
		class := int64(next(n))
		if next(20) == 0 {
			class = int64(next(6))
		}
		switch next(20) {
		case 0, 1, 2:
			code[at] = impl.Insn{Op: impl.OpNew, A: class}
		case 3, 4, 5, 6, 7:
			code[at] = impl.Insn{Op: impl.OpCall, A: class, B: []int64{0, 1, 7, 19, 8}[next(9)/2]}
		case 8:
			code[at] = impl.Insn{Op: impl.OpGet, A: class, B: int64(next(4))}
		case 9:
			code[at] = impl.Insn{Op: impl.OpPut, A: class, B: int64(next(4))}
		case 10:
			code[at] = impl.Insn{Op: impl.OpJump, A: int64(next(len(code)))}
		case 11:
			code[at] = impl.Insn{Op: impl.OpZero, A: int64(next(len(code)))}
		case 12:
			code[at] = impl.Insn{Op: impl.OpGive}
		default:
			code[at] = impl.Insn{Op: impl.OpLoad, A: int64(next(6))}
		}
	}
	return code
}

// errands is Sound: methods of class 1 and below make some of these classes, and call them by names that all of them have, or jump over that.
func errands(seed uint64) impl.Program {
	next := drawer(seed + 377)
	n := 2 + next(5)
	p := impl.Program{Classes: []impl.Class{opening("a0 t")}}
	for k := 1; k < n; k++ {
		c := impl.Class{Super: int64(1 + next(max(k-1, 1)))}
		if k == 1 {
			c.Super = -1
		}
		for name := int64(1); name <= 3; name++ {
			if k == 1 || next(3) > 0 {
				c.Methods = append(c.Methods, impl.Method{Name: name, Gives: impl.TyInt, Code: errand(next, n)})
			}
		}
		p.Classes = append(p.Classes, c)
	}
	p.Classes[0].Methods[0].Code = errand(next, n)
	return p
}

func errand(next func(int) int, n int) []impl.Insn {
	var code []impl.Insn
	for range next(4) {
		made, name := int64(1+next(n-1)), int64(1+next(3))
		if next(3) == 0 {
			code = append(code, impl.Insn{Op: impl.OpJump, A: int64(len(code) + 4)})
		}
		code = append(code, impl.Insn{Op: impl.OpNew, A: made}, impl.Insn{Op: impl.OpCall, A: []int64{1, made}[next(2)], B: name}, impl.Insn{Op: impl.OpSay})
	}
	return append(code, impl.Insn{Op: impl.OpPush, A: int64(next(9))}, impl.Insn{Op: impl.OpGive})
}

func TestPromise14SprawlingPrograms(t *testing.T) {
	some := map[string]int{}
	for seed := range uint64(6000) {
		p := sprawling(seed)
		if why := wrongWith(p); why != "" {
			t.Fatalf("drawn by %d: %s is wrong", seed, why)
		}
		checkReach(t, p)
		teller := tellerOf(p)
		made, live, needed := teller.least()
		some["made ones"] += len(made) - 1
		some["not made"] += len(p.Classes) - len(made)
		some["live ones"] += len(live) - 1
		some["not live"] += len(teller.methods) - len(live)
		some["needed, not made"] += len(needed) - len(made)
		some["not needed"] += len(p.Classes) - len(needed)
		some["in several rounds"] += min(1, teller.rounds()/4)
		some["in more rounds"] += min(1, teller.rounds()/7)
	}
	for what, least := range map[string]int{"made ones": 3000, "not made": 5000, "live ones": 2000, "not live": 5000, "needed, not made": 1000, "not needed": 3000, "in several rounds": 500, "in more rounds": 40} {
		if some[what] < least {
			t.Errorf("only %d are %s", some[what], what)
		}
	}
}

// rounds is how many rounds bring something that was not there.
func (t teller) rounds() int {
	var made, live numberSet
	for n := 0; ; n++ {
		moreMade, moreLive := t.brings(made, live)
		if len(moreMade) == len(made) && len(moreLive) == len(live) {
			return n
		}
		made, live = moreMade, moreLive
	}
}

// inAllClosed has what is in each choice of classes and methods that brings nothing it has not.
func (t teller) inAllClosed() (numberSet, numberSet) {
	var numbers []int64
	for n := range t.methods {
		numbers = append(numbers, n)
	}
	inMade, inLive := numberSet{}, numberSet{}
	for k := range int64(len(t.p.Classes)) {
		inMade[k] = true
	}
	for _, n := range numbers {
		inLive[n] = true
	}
	for choice := range 1 << (len(t.p.Classes) + len(numbers)) {
		made, live := numberSet{}, numberSet{}
		for k := range t.p.Classes {
			if choice>>k&1 == 1 {
				made[int64(k)] = true
			}
		}
		for k, n := range numbers {
			if choice>>(len(t.p.Classes)+k)&1 == 1 {
				live[n] = true
			}
		}
		if allMade, allLive := t.brings(made, live); allMade.within(made) && allLive.within(live) {
			inMade, inLive = both(inMade, made), both(inLive, live)
		}
	}
	return inMade, inLive
}

func both(a numberSet, b numberSet) numberSet {
	all := numberSet{}
	for n := range a {
		if b[n] {
			all[n] = true
		}
	}
	return all
}

// neededInAllClosed has the classes in each choice of them that needs nothing it has not.
func (t teller) neededInAllClosed(made numberSet, live numberSet) numberSet {
	in := numberSet{}
	for k := range int64(len(t.p.Classes)) {
		in[k] = true
	}
	for choice := range 1 << len(t.p.Classes) {
		needed := numberSet{}
		for k := range int64(len(t.p.Classes)) {
			if choice>>k&1 == 1 {
				needed[k] = true
			}
		}
		if t.needs(made, live, needed).within(needed) {
			in = both(in, needed)
		}
	}
	return in
}

// TestPromise14TheLeast goes through all choices of classes and methods that there are.
func TestPromise14TheLeast(t *testing.T) {
	looked := 0
	for seed := range uint64(3000) {
		p := sprawling(seed)
		if len(p.Classes) < 2 || len(p.Classes)+len(methodsOf(p)) > 10 {
			continue
		}
		looked++
		teller := tellerOf(p)
		made, live := teller.inAllClosed()
		needed := teller.neededInAllClosed(made, live)
		want := [][]int64{made.rising(), live.rising(), needed.rising()}
		if got := reachAnswers(p); !slices.EqualFunc(got, want, slices.Equal) {
			t.Fatalf("Made, LiveMethods, Needed = %v, the least are %v, of %s", got, want, impl.ShowProgram(p))
		}
	}
	if looked < 500 {
		t.Errorf("only %d looked at", looked)
	}
}

// TestPromise14EveryTree goes through all rows of Supers of up to four classes, all ways to have a name, and to be made, and all calls.
func TestPromise14EveryTree(t *testing.T) {
	for n := 1; n <= 4; n++ {
		for _, supers := range everyTree(n) {
			for choice := range 1 << (2 * n) {
				var owners []int64
				text := ""
				for k := range int64(n) {
					if choice>>k&1 == 1 {
						owners = append(owners, k)
					}
					if choice>>(int64(n)+k)&1 == 1 {
						text += impl.ShowInsn(impl.Insn{Op: impl.OpNew, A: k}) + " "
					}
				}
				p := tree(supers, map[int64][]int64{7: owners})
				for class := range int64(n) {
					call := impl.Insn{Op: impl.OpCall, A: class, B: 7}
					p.Classes[0].Methods[0].Code = codeOfInsns(text + impl.ShowInsn(call) + " t")
					checkReach(t, p)
					p.Classes[0].Methods[0].Code = codeOfInsns(impl.ShowInsn(call) + " " + text + "t")
					checkReach(t, p)
				}
			}
		}
	}
}

// An excursion counts what runs have come upon.
type excursion struct {
	programs, sound, notLive, notMade, frames, objects int
	ended                                              map[int64]int
}

// check runs a program step by step: each Frame is of a LiveMethod, each Object of a Made class.
func (all *excursion) check(t *testing.T, p impl.Program, steps int) {
	t.Helper()
	made, live := impl.Made(p), impl.LiveMethods(p)
	look := func(m impl.Machine) {
		for _, f := range m.Frames {
			if !slices.Contains(live, f.Class*20+f.Name) {
				t.Fatalf("method %d of class %d runs, LiveMethods = %v, of %s", f.Name, f.Class, live, impl.ShowProgram(p))
			}
		}
		for _, o := range m.Heap {
			if !slices.Contains(made, o.Class) {
				t.Fatalf("an object of class %d, Made = %v, of %s", o.Class, made, impl.ShowProgram(p))
			}
		}
	}
	m, _ := impl.Started(p)
	look(m)
	for k := 0; k < steps && m.End == impl.EnRuns; k++ {
		m = impl.Stepped(p, m)
		look(m)
		if len(m.Frames) > 1 {
			all.frames++
		}
	}
	for _, n := range []int64{0, 1, 300, 1000, 3000} {
		look(impl.Ran(p, n))
	}
	end := impl.Ran(p, 3000)
	all.objects += len(end.Heap) - 1
	all.ended[end.End]++
	all.programs++
	all.notLive += min(1, len(methodsOf(p))-len(live))
	all.notMade += min(1, len(p.Classes)-len(made))
	if impl.Sound(p) {
		all.sound++
	}
}

func (all *excursion) checkEnough(t *testing.T, least excursion) {
	t.Helper()
	for what, counts := range map[string][2]int{
		"programs": {all.programs, least.programs}, "Sound": {all.sound, least.sound}, "with methods not live": {all.notLive, least.notLive},
		"with classes not made": {all.notMade, least.notMade}, "steps in calls": {all.frames, least.frames}, "objects": {all.objects, least.objects},
	} {
		if counts[0] < counts[1] {
			t.Errorf("only %d %s", counts[0], what)
		}
	}
	for end, n := range least.ended {
		if all.ended[end] < n {
			t.Errorf("only %d ended by %d", all.ended[end], end)
		}
	}
}

func TestPromise14WhateverRuns(t *testing.T) {
	all := excursion{ended: map[int64]int{}}
	for seed := range uint64(700) {
		for _, p := range []impl.Program{livelyProgram(seed), muddled(seed), repeating(seed, livelyProgram(seed)), sprawling(seed)} {
			checkReach(t, p)
			all.check(t, p, 80)
		}
	}
	all.checkEnough(t, excursion{programs: 2800, sound: 200, notLive: 1500, notMade: 1500, frames: 1000, objects: 1000, ended: map[int64]int{impl.EnRuns: 20, impl.EnGave: 200, impl.EnNull: 50, impl.EnStuck: 500}})
}

func TestPromise14WhateverRunsErrands(t *testing.T) {
	all := excursion{ended: map[int64]int{}}
	for seed := range uint64(1000) {
		p := errands(seed)
		if !impl.Sound(p) {
			t.Fatalf("%s is not Sound", impl.ShowProgram(p))
		}
		for _, p := range []impl.Program{p, chorus(seed), impl.Single(p)} {
			checkReach(t, p)
			all.check(t, p, 80)
		}
	}
	all.checkEnough(t, excursion{programs: 3000, sound: 3000, notLive: 500, notMade: 200, frames: 5000, objects: 3000, ended: map[int64]int{impl.EnGave: 500, impl.EnDeep: 50, impl.EnFull: 10}})
}

func TestPromise14DrawnPrograms(t *testing.T) {
	right, wrong := 0, 0
	for seed := range uint64(3000) {
		p := drawnProgram(seed)
		checkReach(t, p)
		if wrongWith(p) == "" {
			right++
		} else {
			wrong++
		}
	}
	if right < 300 || wrong < 300 {
		t.Errorf("only %d right ones, %d wrong ones", right, wrong)
	}
}
