package tests

import (
	"slices"
	"testing"

	"loop.example/g00334/impl"
)

// repeating says again below what is said above, in most places, and nearly so in some.
func repeating(seed uint64, p impl.Program) impl.Program {
	next := drawer(seed + 77)
	p = twin(p)
	for k := range p.Classes {
		c := &p.Classes[k]
		if c.Super < 0 {
			continue
		}
		for name := range int64(20) {
			selected := selectedIn(p, underIn(p), c.Super, name)
			if selected < 0 || next(4) == 0 {
				continue
			}
			at := slices.IndexFunc(p.Classes[selected].Methods, func(m impl.Method) bool { return m.Name == name })
			again := twinMethod(p.Classes[selected].Methods[at])
			if next(5) == 0 {
				again.Code = nearly(next, p, again.Code)
			}
			sayAgain(c, again)
		}
	}
	return p
}

// sayAgain puts a method in the place of one of its name, or where it belongs; not where there are four.
func sayAgain(c *impl.Class, m impl.Method) {
	at := slices.IndexFunc(c.Methods, func(other impl.Method) bool { return other.Name >= m.Name })
	switch {
	case at >= 0 && c.Methods[at].Name == m.Name:
		c.Methods[at] = m
	case len(c.Methods) == 4:
	case at < 0:
		c.Methods = append(c.Methods, m)
	default:
		c.Methods = slices.Insert(c.Methods, at, m)
	}
}

// nearly changes one step for another, or says one more at the end.
func nearly(next func(int) int, p impl.Program, code []impl.Insn) []impl.Insn {
	if len(code) < 40 && next(3) == 0 {
		return append(code, impl.Insn{Op: impl.OpGive})
	}
	at := next(len(code))
	switch i := &code[at]; {
	case i.Op == impl.OpPush:
		i.A++
	case i.Op == impl.OpLoad:
		i.A = (i.A + 1) % 8
	case i.Op == impl.OpCall:
		i.B = (i.B + 1) % 4
	case goes(*i):
		i.A = int64(next(len(code)))
	default:
		if other := drawnInsn(next, p); !goes(other) {
			*i = other
		}
	}
	return code
}

// songs are what the methods of a chorus say, by their names: of themselves, of a field, of what is below, and such that end.
func songs() map[int64][]string {
	return map[int64][]string{
		1: {"a7 t", "b0 q1,2 t", "b0 q1,2 b0 q1,3 d t", "b0 q1,2 s b0 q1,3 t"},
		2: {"a1 t", "a2 t", "a2 h s t", "b0 o1,0 t", "b0 q1,3 t"},
		3: {"a3 t", "b0 a4 p1,0 b0 o1,0 t", "b0 o1,0 a1 d h s t", "a1 b0 o1,0 g t", "b0 o1,1 q1,2 t"},
	}
}

// chorus makes objects of all classes below class 1 and calls their methods; codes are drawn from few, so many are the same.
func chorus(seed uint64) impl.Program {
	next := drawer(seed + 177)
	p := lone()
	n := 2 + next(5)
	few := 1 + next(3)
	main := ""
	for k := 1; k < n; k++ {
		c := impl.Class{Super: int64(1 + next(max(k-1, 1)))}
		if k == 1 {
			c.Super, c.Fields = -1, []int64{impl.TyInt, 1}
		}
		for name := int64(1); name <= 3; name++ {
			if k > 1 && next(4) == 0 {
				continue
			}
			song := songs()[name]
			code := codeOfInsns(song[(int(seed)+next(few))%len(song)])
			c.Methods = append(c.Methods, impl.Method{Name: name, Gives: impl.TyInt, Code: code})
		}
		p.Classes = append(p.Classes, c)
		made := "n" + string(rune('0'+k))
		main += made + " h q1,1 s " + "q1," + string(rune('1'+next(3))) + " s "
	}
	p.Classes[0].Methods[0].Code = codeOfInsns(main + "a0 t")
	return p
}

// asSelected is the machine with each frame in the class that says it in a single program.
func asSelected(single impl.Program, m impl.Machine) impl.Machine {
	m = twinMachine(m)
	for k := range m.Frames {
		f := &m.Frames[k]
		f.Class = impl.Selected(single, f.Class, f.Name)
	}
	return m
}

// A choir counts what runs have come upon.
type choir struct {
	programs, sound, doubles, inDouble int
	ended                              map[int64]int
}

// check runs a program beside itself made Single: they go step by step together, wherever they end.
func (all *choir) check(t *testing.T, p impl.Program) {
	t.Helper()
	checkSingle(t, p)
	single, doubles := impl.Single(p), impl.Doubles(p)
	all.programs++
	all.doubles += len(doubles)
	if impl.Sound(p) {
		all.sound++
		if !impl.Sound(single) {
			t.Fatalf("what is Single is not Sound: %s, of %s", impl.ShowProgram(single), impl.ShowProgram(p))
		}
	}
	if want := impl.Bulk(p) - saidTwice(p, doubles); impl.Bulk(single) != want {
		t.Fatalf("Bulk = %d, want %d, of %s", impl.Bulk(single), want, impl.ShowProgram(p))
	}
	for _, n := range []int64{0, 1, 5, 20, 60, 200, 700} {
		a, b := impl.Ran(p, n), impl.Ran(single, n)
		if impl.Heard(a) != impl.Heard(b) || impl.Cost(p, n) != impl.Cost(single, n) {
			t.Fatalf("heard %q in %d, Single %q in %d, of %s", impl.Heard(a), impl.Cost(p, n), impl.Heard(b), impl.Cost(single, n), impl.ShowProgram(p))
		}
		if !sameMachine(asSelected(single, a), b) {
			t.Fatalf("after %d steps %v, Single %v, of %s", n, a, b, impl.ShowProgram(p))
		}
	}
	all.ended[impl.Ran(p, 700).End]++
	if comesToOne(p, doubles) {
		all.inDouble++
	}
}

// saidTwice is how many steps these methods have.
func saidTwice(p impl.Program, doubles []int64) int64 {
	steps := 0
	for _, n := range doubles {
		own, _ := impl.MethodOf(p, n/20, n%20)
		steps += len(own.Code)
	}
	return int64(steps)
}

// comesToOne tells whether one of these methods runs soon.
func comesToOne(p impl.Program, doubles []int64) bool {
	m, _ := impl.Started(p)
	for range 60 {
		for _, f := range m.Frames {
			if slices.Contains(doubles, f.Class*20+f.Name) {
				return true
			}
		}
		m = impl.Stepped(p, m)
	}
	return false
}

func (all *choir) checkEnough(t *testing.T, least choir) {
	t.Helper()
	if all.programs < least.programs || all.sound < least.sound || all.doubles < least.doubles || all.inDouble < least.inDouble {
		t.Errorf("only %+v", *all)
	}
	for end, n := range least.ended {
		if all.ended[end] < n {
			t.Errorf("only %d ended by %d", all.ended[end], end)
		}
	}
}

func TestPromise13WhatIsSingleIsTheSame(t *testing.T) {
	all := choir{ended: map[int64]int{}}
	for seed := range uint64(500) {
		all.check(t, livelyProgram(seed))
		all.check(t, repeating(seed, livelyProgram(seed)))
	}
	all.checkEnough(t, choir{programs: 1000, sound: 150, doubles: 700, inDouble: 8, ended: map[int64]int{impl.EnRuns: 10, impl.EnGave: 100, impl.EnZero: 10, impl.EnNull: 50, impl.EnFull: 20, impl.EnDeep: 3, impl.EnStuck: 50}})
}

func TestPromise13WhatAChorusSings(t *testing.T) {
	all := choir{ended: map[int64]int{}}
	for seed := range uint64(600) {
		p := chorus(seed)
		if !impl.Sound(p) {
			t.Fatalf("%s is not Sound", impl.ShowProgram(p))
		}
		all.check(t, p)
		all.check(t, repeating(seed, p))
	}
	all.checkEnough(t, choir{programs: 1200, sound: 800, doubles: 3000, inDouble: 500, ended: map[int64]int{impl.EnGave: 300, impl.EnZero: 50, impl.EnNull: 50}})
}

// TestPromise13EveryTree goes through all rows of Supers there are, and all ways for each class to say one thing, another one, or nothing.
func TestPromise13EveryTree(t *testing.T) {
	one, other := codeOf(t, "a8 t"), codeOf(t, "a8 s")
	for n := 1; n <= 5; n++ {
		rows := rowsOf([]int64{0, 1, 2}, n)
		for _, supers := range everyTree(n) {
			for _, row := range rows {
				p := tree(supers, nil)
				for k, says := range row {
					if says > 0 {
						code := [][]impl.Insn{one, other}[says-1]
						p.Classes[k].Methods = append(p.Classes[k].Methods, impl.Method{Name: 7, Gives: impl.TyInt, Code: code})
					}
				}
				checkSingle(t, p)
			}
		}
	}
}

func TestPromise13DrawnPrograms(t *testing.T) {
	right, wrong, doubles := 0, 0, 0
	for seed := range uint64(1500) {
		p := drawnProgram(seed)
		if why := wrongWith(p); why != "" {
			wrong++
			checkNoDoubles(t, why, p)
			continue
		}
		right++
		doubles += len(impl.Doubles(p))
		checkSingle(t, p)
		if seed < 200 {
			checkDoubleEverywhere(t, p)
		}
	}
	if right < 200 || wrong < 200 || doubles < 100 {
		t.Errorf("only %d right ones, %d wrong ones, %d doubles", right, wrong, doubles)
	}
}
