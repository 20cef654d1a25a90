package tests

import (
	"fmt"
	"slices"
	"testing"

	"loop.example/g00334/impl"
)

// drawnRightProgram is right always; of its methods some four in five are accepted.
func drawnRightProgram(seed uint64) impl.Program { return drawnBy(drawer(seed), false) }

// livelyProgram also works numbers out and says them.
func livelyProgram(seed uint64) impl.Program { return drawnBy(drawer(seed), true) }

func drawnBy(next func(below int) int, lively bool) impl.Program {
	n := 1 + next(6)
	kind := func() int64 { return int64(next(n+1) - 1) }
	// What a name takes and gives is the same in all classes.
	forms := []impl.Method{{Name: 0, Gives: impl.TyInt}}
	for name := int64(1); name < 4; name++ {
		m := impl.Method{Name: name, Gives: kind()}
		for range next(4) {
			m.Args = append(m.Args, kind())
		}
		forms = append(forms, m)
	}
	var p impl.Program
	for k := range n {
		c := impl.Class{Super: int64(next(k+1) - 1)}
		if k > 0 && c.Super < 0 && next(2) == 0 {
			c.Super = 0
		}
		for range next(4) {
			c.Fields = append(c.Fields, kind())
		}
		for name, form := range forms {
			if k == 0 && name == 0 || next(3) == 0 {
				c.Methods = append(c.Methods, twinMethod(form))
			}
		}
		p.Classes = append(p.Classes, c)
	}
	for k := range p.Classes {
		for j := range p.Classes[k].Methods {
			m := &p.Classes[k].Methods[j]
			w := newWriter(next, p, int64(k), *m)
			w.lively = lively
			m.Code = w.code()
		}
	}
	return p
}

// A writer draws codes of statements that leave as many on the Stack as they found; jumps go to where a statement begins.
type writer struct {
	next   func(below int) int
	p      impl.Program
	class  int64
	method impl.Method
	base   int
	lively bool
	insns  []impl.Insn
	begins []int64
}

func newWriter(next func(int) int, p impl.Program, class int64, m impl.Method) *writer {
	return &writer{next: next, p: p, class: class, method: m, base: next(3)}
}

func (w *writer) add(op int64, numbers ...int64) {
	numbers = append(numbers, 0, 0)
	w.insns = append(w.insns, impl.Insn{Op: op, A: numbers[0], B: numbers[1]})
}

// below is a class under this one, most of the time.
func (w *writer) below(class int64) int64 {
	under := classesWhere(underIn(w.p), func(k int64) bool { return underIn(w.p)[k][class] })
	if w.next(25) == 0 {
		return int64(w.next(len(w.p.Classes)))
	}
	return under[w.next(len(under))]
}

// put writes what gives one of this kind: locals 4 and 5 are for numbers, 6 and 7 for others.
func (w *writer) put(kind int64) {
	if kind == impl.TyInt {
		if w.lively && w.next(3) == 0 {
			w.add(impl.OpLoad, int64(4+w.next(2)))
			w.add(impl.OpPush, int64(w.next(5)-1))
			w.add(int64(impl.OpAdd + w.next(4)))
			return
		}
		switch w.next(5) {
		case 0:
			w.add(impl.OpLoad, int64(4+w.next(2)))
		case 1:
			w.put(int64(w.next(len(w.p.Classes))))
			w.add(impl.OpNil)
		default:
			w.add(impl.OpPush, int64(w.next(9)))
		}
		return
	}
	switch w.next(6) {
	case 0:
		w.add(impl.OpNull)
	case 1:
		w.add(impl.OpLoad, int64(6+w.next(2)))
	case 2:
		w.add(impl.OpLoad, 0)
		if !underIn(w.p)[w.class][kind] {
			w.add(impl.OpPop)
			w.add(impl.OpNull)
		}
	default:
		w.add(impl.OpNew, w.below(kind))
	}
}

func (w *writer) statement() {
	w.begins = append(w.begins, int64(len(w.insns)))
	class := int64(w.next(len(w.p.Classes)))
	if w.lively && w.next(5) == 0 {
		w.put(impl.TyInt)
		w.add(impl.OpDup)
		w.add(impl.OpSay)
		w.add(impl.OpStore, int64(4+w.next(2)))
		return
	}
	switch w.next(9) {
	case 0:
		w.put(impl.TyInt)
		w.add(impl.OpStore, int64(4+w.next(2)))
	case 1, 2:
		w.put(class)
		w.add(impl.OpStore, int64(6+w.next(2)))
	case 3, 4:
		w.put(impl.TyInt)
		w.add(impl.OpZero, -1)
	case 5:
		w.add(impl.OpJump, -1)
	case 6:
		if w.base > 0 {
			w.add(impl.OpPop)
			w.put(class)
		}
		if w.base > 1 {
			w.add(impl.OpSwap)
		}
	case 7:
		w.useField(class)
	case 8:
		w.call(class)
	}
}

func (w *writer) useField(class int64) {
	own := w.p.Classes[class].Fields
	if len(own) == 0 {
		return
	}
	field := int64(w.next(len(own)))
	w.put(class)
	if w.next(2) == 0 {
		w.add(impl.OpGet, class, field)
		w.add(impl.OpPop)
		return
	}
	w.put(own[field])
	w.add(impl.OpPut, class, field)
}

func (w *writer) call(class int64) {
	name := int64(w.next(4))
	selected := selectedIn(w.p, underIn(w.p), class, name)
	if selected < 0 {
		return
	}
	at := slices.IndexFunc(w.p.Classes[selected].Methods, func(m impl.Method) bool { return m.Name == name })
	w.put(class)
	for _, arg := range w.p.Classes[selected].Methods[at].Args {
		w.put(arg)
	}
	w.add(impl.OpCall, class, name)
	w.add(impl.OpPop)
}

func (w *writer) code() []impl.Insn {
	for local := int64(4); local < 8; local++ {
		w.add([]int64{impl.OpPush, impl.OpNull}[local/6])
		if local < 6 && w.next(6) == 0 || local == 7 && w.next(3) == 0 {
			w.insns[len(w.insns)-1] = impl.Insn{Op: impl.OpNew, A: int64(w.next(len(w.p.Classes)))}
		}
		w.add(impl.OpStore, local)
	}
	for range w.base {
		w.put(int64(w.next(len(w.p.Classes))))
	}
	for limit := 12 + w.next(20); len(w.insns) < limit; {
		w.statement()
	}
	w.begins = append(w.begins, int64(len(w.insns)))
	w.put(w.method.Gives)
	w.add(impl.OpGive)
	if len(w.insns) > 40 {
		return codeOfInsns("m t")
	}
	for k := range w.insns {
		if goes(w.insns[k]) {
			w.insns[k].A = w.begins[w.next(len(w.begins))]
		}
	}
	if w.next(6) == 0 {
		w.spoil()
	}
	return w.insns
}

// spoil changes one Insn for another one, or leaves out the last.
func (w *writer) spoil() {
	if w.next(4) == 0 {
		w.insns[len(w.insns)-1] = impl.Insn{Op: impl.OpPop}
		return
	}
	i := drawnInsn(w.next, w.p)
	if goes(i) {
		i.A = int64(w.next(len(w.insns)))
	}
	w.insns[w.next(len(w.insns))] = i
}

func codeOfInsns(text string) []impl.Insn {
	code, _ := impl.ReadCode(text)
	return code
}

// drawnInsn is right, but names also what is not there.
func drawnInsn(next func(int) int, p impl.Program) impl.Insn {
	op := int64(1 + next(20))
	if next(3) == 0 {
		op = int64(impl.OpGet + next(3))
	}
	a, b, _ := ends(op)
	i := impl.Insn{Op: op, A: int64(next(int(min(a[1], 40) + 1))), B: int64(next(int(b[1] + 1)))}
	if op >= impl.OpNew && op <= impl.OpCall && next(8) > 0 {
		i.A = int64(next(len(p.Classes)))
	}
	if op == impl.OpCall && next(8) > 0 {
		i.B = int64(next(4))
	}
	if op != impl.OpCall && next(3) > 0 {
		i.B = 0
	}
	return i
}

// TestPromise7EffectAsFollowed asks of drawn Insns in drawn States of drawn programs.
func TestPromise7EffectAsFollowed(t *testing.T) {
	did := map[int64]int{}
	for seed := range uint64(3000) {
		p := drawnRightProgram(seed)
		next := drawer(seed)
		methods := methodsOf(p)
		at := methods[next(len(methods))]
		f := followerOf(p, at[0], at[1])
		for k := range uint64(60) {
			s := drawnState(seed*97+k, p, next(10))
			i := drawnInsn(next, p)
			want, fine := f.effect(i, s)
			if got, is := impl.Effect(p, at[0], at[1], i, s); is != fine || !sameState(got, want) {
				t.Fatalf("Effect of %v in %v = %v, %v, want %v, %v, in %v, of %v", i, s, got, is, want, fine, at, impl.ShowProgram(p))
			}
			if fine {
				did[i.Op]++
			}
		}
	}
	for op := int64(impl.OpPush); op <= impl.OpGive; op++ {
		if did[op] < 30 {
			t.Errorf("Op %d was done only %d times", op, did[op])
		}
	}
}

func TestPromise7DrawnPrograms(t *testing.T) {
	accepted, refused, sound, unreached, joined := 0, 0, 0, 0, 0
	for seed := range uint64(900) {
		p := drawnRightProgram(seed)
		if why := wrongWith(p); why != "" {
			t.Fatalf("drawn by %d: %s is wrong", seed, why)
		}
		all := true
		for _, at := range methodsOf(p) {
			states, reached, is := checkMethodFrames(t, p, at[0], at[1])
			all = all && is
			if !is {
				refused++
				continue
			}
			accepted++
			if slices.Contains(reached, 0) {
				unreached++
			}
			if seed < 10 {
				checkNoLesser(t, p, at[0], at[1], states, reached)
			}
			if !sameStates(states, oneWay(followerOf(p, at[0], at[1]))) {
				joined++
			}
		}
		if impl.Sound(p) != all {
			t.Fatalf("Sound = %v, of %v", !all, impl.ShowProgram(p))
		}
		if all {
			sound++
		}
	}
	if accepted < 1000 || refused < 500 || sound < 100 || unreached < 300 || joined < 300 {
		t.Errorf("only %d accepted, %d refused, %d programs sound, %d with some that are not reached, %d with ways that join", accepted, refused, sound, unreached, joined)
	}
}

// oneWay are the states of those who come first, with nothing joined.
func oneWay(f follower) []impl.State {
	states := make([]impl.State, len(f.method.Code))
	states[0] = f.entry()
	todo := []int{0}
	for len(todo) > 0 {
		at := todo[0]
		todo = todo[1:]
		after, _ := f.effect(f.method.Code[at], states[at])
		for _, next := range nextsBy(f.method.Code, at) {
			if len(states[next].Locals) == 0 {
				states[next] = after
				todo = append(todo, next)
			}
		}
	}
	return states
}

// everyWay is the chapter without joining: all pairs of a number and a State that some way comes to, joined at the very end. False where they are too many.
func everyWay(f follower) ([]impl.State, bool) {
	type place struct {
		at    int
		state string
	}
	seen := map[place]bool{}
	states := make([]impl.State, len(f.method.Code))
	var todo []int
	var with []impl.State
	come := func(at int, s impl.State) {
		if key := (place{at, fmt.Sprint(s)}); !seen[key] {
			seen[key] = true
			todo, with = append(todo, at), append(with, s)
			if joined, is := f.l.joinState(states[at], s); is {
				s = joined
			}
			states[at] = s
		}
	}
	come(0, f.entry())
	for len(todo) > 0 && len(seen) < 3000 {
		at, s := todo[0], with[0]
		todo, with = todo[1:], with[1:]
		after, _ := f.effect(f.method.Code[at], s)
		for _, next := range nextsBy(f.method.Code, at) {
			come(next, twinState(after))
		}
	}
	return states, len(todo) == 0
}

// TestPromise7EachWayAlone goes each way for itself: Frames, where there are any, are what all of them make together, and nothing more.
func TestPromise7EachWayAlone(t *testing.T) {
	gone := 0
	for seed := range uint64(700) {
		p := drawnRightProgram(seed)
		for _, at := range methodsOf(p) {
			states, _, is := impl.Frames(p, at[0], at[1])
			if !is {
				continue
			}
			want, all := everyWay(followerOf(p, at[0], at[1]))
			if !all {
				continue
			}
			gone++
			if !sameStates(states, want) {
				t.Fatalf("Frames(%d, %d) = %v, by each way alone %v, of %v", at[0], at[1], states, want, impl.ShowProgram(p))
			}
		}
	}
	if gone < 500 {
		t.Errorf("only %d are gone through", gone)
	}
}

// greater makes one kind of one State greater, and all else as much greater as that asks for; false where nothing comes of it.
func greater(f follower, states []impl.State, reached []int64, next func(int) int) ([]impl.State, bool) {
	var more []impl.State
	for _, s := range states {
		more = append(more, twinState(s))
	}
	at := next(len(more))
	if reached[at] == 0 {
		return nil, false
	}
	list := more[at].Locals
	if len(more[at].Stack) > 0 && next(2) == 0 {
		list = more[at].Stack
	}
	k, kind := next(len(list)), f.l.kinds[next(len(f.l.kinds))]
	if list[k] == kind || !f.l.fit(list[k], kind) {
		return nil, false
	}
	list[k] = kind
	all, _, is := f.framesFrom(more, slices.Clone(reached), ordersOf(len(more), 0)[0])
	return all, is
}

// TestPromise7FramesAreLeast finds other States that hold, too: those of Frames fit them all.
func TestPromise7FramesAreLeast(t *testing.T) {
	found := 0
	for seed := range uint64(300) {
		p := drawnRightProgram(seed)
		next := drawer(seed)
		for _, at := range methodsOf(p) {
			states, reached, is := impl.Frames(p, at[0], at[1])
			if !is {
				continue
			}
			for range 20 {
				others, is := greater(followerOf(p, at[0], at[1]), states, reached, next)
				if !is || !hold(p, at[0], at[1], others, reached) {
					continue
				}
				found++
				for k := range others {
					if reached[k] == 1 && !impl.StateFits(p, states[k], others[k]) {
						t.Fatalf("Frames(%d, %d): %v at %d, and %v would hold, of %v", at[0], at[1], states[k], k, others[k], impl.ShowProgram(p))
					}
				}
			}
		}
	}
	if found < 300 {
		t.Errorf("only %d others are found", found)
	}
}
