package tests

import (
	"fmt"
	"math"
	"reflect"
	"slices"
	"testing"

	"loop.example/g00334/impl"
)

// isMachine is the chapter's word of what a machine is, told once more.
func isMachine(m impl.Machine) bool {
	lists := [][]impl.Value{}
	for _, o := range m.Heap {
		if len(o.Fields) > 24 {
			return false
		}
		lists = append(lists, o.Fields)
	}
	for _, f := range m.Frames {
		if len(f.Stack) > 8 || len(f.Locals) != 8 {
			return false
		}
		lists = append(lists, f.Stack, f.Locals)
	}
	for _, v := range slices.Concat(lists...) {
		fine := v.Kind == impl.VaInt && isWord(v.N) || v.Kind == impl.VaRef && v.N > -1 || v == null()
		if !fine {
			return false
		}
	}
	return len(m.Heap) < 51 && len(m.Frames) < 31 && (m.End > 0 || len(m.Frames) > 0) && len(m.Said) < 20001 && !slices.ContainsFunc(m.Said, func(n int64) bool { return !isWord(n) }) && m.End > -1 && m.End < 7
}

// kindIn is TyNone of what can't be used.
func kindIn(p impl.Program, m impl.Machine, v impl.Value) int64 {
	switch v.Kind {
	case impl.VaInt:
		return impl.TyInt
	case impl.VaNull:
		return impl.TyNull
	}
	if v.N < int64(len(m.Heap)) && isThere(p, m.Heap[v.N].Class) {
		return m.Heap[v.N].Class
	}
	return impl.TyNone
}

// told is Stepped told once more, over the tables of a follower: first all ends that could be, then what is done.
func told(p impl.Program, m impl.Machine) impl.Machine {
	if wrongWith(p) != "" || !isMachine(m) {
		return impl.Machine{}
	}
	if m.End != impl.EnRuns {
		return twinMachine(m)
	}
	top := m.Frames[len(m.Frames)-1]
	if !isThere(p, top.Class) || !ownsName(p, top.Class, top.Name) {
		return endedBy(m, impl.EnStuck)
	}
	f := followerOf(p, top.Class, top.Name)
	if top.At < 0 || top.At >= int64(len(f.method.Code)) {
		return endedBy(m, impl.EnStuck)
	}
	i := f.method.Code[top.At]
	takes, is := f.takes(i)
	below := len(top.Stack) - len(takes)
	if !is || below < 0 {
		return endedBy(m, impl.EnStuck)
	}
	for k, allowed := range takes {
		if !slices.Contains(allowed, kindIn(p, m, top.Stack[below+k])) {
			return endedBy(m, impl.EnStuck)
		}
	}
	ends := endsIn(f, m, i, top.Stack[below:])
	if slices.Contains(ends, impl.EnStuck) {
		return endedBy(m, impl.EnStuck)
	}
	if len(ends) > 0 {
		return endedBy(m, slices.Min(ends))
	}
	return doneIn(f, m, i, below)
}

// endsIn are all ends that could be where each is of its kind.
func endsIn(f follower, m impl.Machine, i impl.Insn, taken []impl.Value) []int64 {
	var ends []int64
	end := func(is bool, by int64) {
		if is {
			ends = append(ends, by)
		}
	}
	stack := m.Frames[len(m.Frames)-1].Stack
	more := map[int64]int{impl.OpPush: 1, impl.OpLoad: 1, impl.OpDup: 1, impl.OpNull: 1, impl.OpNew: 1}[i.Op]
	end(len(stack)+more > 8, impl.EnStuck)
	switch i.Op {
	case impl.OpDiv:
		end(taken[1].N == 0, impl.EnZero)
	case impl.OpNew:
		end(len(m.Heap) == 50, impl.EnFull)
	case impl.OpGet, impl.OpPut:
		end(taken[0] == null(), impl.EnNull)
		end(taken[0] != null() && placeIn(f.p, i) >= len(m.Heap[taken[0].N].Fields), impl.EnStuck)
	case impl.OpCall:
		end(taken[0] == null(), impl.EnNull)
		end(len(m.Frames) == 30, impl.EnDeep)
	case impl.OpSay:
		end(len(m.Said) == 20000, impl.EnStuck)
	case impl.OpGive:
		end(len(m.Frames) > 1 && len(m.Frames[max(len(m.Frames)-2, 0)].Stack) == 8, impl.EnStuck)
	}
	return ends
}

// placeIn is where field B of class A is in an object.
func placeIn(p impl.Program, i impl.Insn) int {
	return len(fieldsIn(p, int(i.A))) - len(p.Classes[i.A].Fields) + int(i.B)
}

func newObject(p impl.Program, class int64) impl.Object {
	o := impl.Object{Class: class}
	for _, kind := range fieldsIn(p, int(class)) {
		if kind == impl.TyInt {
			o.Fields = append(o.Fields, number(0))
		} else {
			o.Fields = append(o.Fields, null())
		}
	}
	return o
}

// doneIn does what i does; those from below on are taken.
func doneIn(f follower, m impl.Machine, i impl.Insn, below int) impl.Machine {
	out := twinMachine(m)
	top := &out.Frames[len(out.Frames)-1]
	taken := slices.Clone(top.Stack[below:])
	top.Stack = top.Stack[:below]
	top.At++
	put := func(v ...impl.Value) { top.Stack = append(top.Stack, v...) }
	switch i.Op {
	case impl.OpPush:
		put(number(i.A))
	case impl.OpLoad:
		put(top.Locals[i.A])
	case impl.OpStore:
		top.Locals[i.A] = taken[0]
	case impl.OpAdd:
		put(number(int64(int32(taken[0].N + taken[1].N))))
	case impl.OpSub:
		put(number(int64(int32(taken[0].N - taken[1].N))))
	case impl.OpMul:
		put(number(int64(int32(taken[0].N * taken[1].N))))
	case impl.OpDiv:
		put(number(int64(int32(taken[0].N / taken[1].N))))
	case impl.OpDup:
		put(taken[0], taken[0])
	case impl.OpSwap:
		put(taken[1], taken[0])
	case impl.OpJump:
		top.At = i.A
	case impl.OpZero:
		if taken[0].N == 0 {
			top.At = i.A
		}
	case impl.OpNull:
		put(null())
	case impl.OpNew:
		put(object(int64(len(out.Heap))))
		out.Heap = append(out.Heap, newObject(f.p, i.A))
	case impl.OpGet:
		put(out.Heap[taken[0].N].Fields[placeIn(f.p, i)])
	case impl.OpPut:
		out.Heap[taken[0].N].Fields[placeIn(f.p, i)] = taken[1]
	case impl.OpCall:
		top.At--
		selected := selectedIn(f.p, f.table, out.Heap[taken[0].N].Class, i.B)
		fresh := impl.Frame{Class: selected, Name: i.B, Locals: slices.Repeat(values("0"), 8)}
		copy(fresh.Locals, taken)
		out.Frames = append(out.Frames, fresh)
	case impl.OpNil:
		put(number(map[bool]int64{true: 1}[taken[0] == null()]))
	case impl.OpSay:
		out.Said = append(out.Said, taken[0].N)
	case impl.OpGive:
		out.Frames = out.Frames[:len(out.Frames)-1]
		if len(out.Frames) == 0 {
			out.End, out.Code = impl.EnGave, taken[0].N
			break
		}
		top = &out.Frames[len(out.Frames)-1]
		top.At++
		put(taken[0])
	}
	return out
}

// A machinist draws machines of one program: most of the time all is as the next Insn wants it.
type machinist struct {
	next  func(below int) int
	p     impl.Program
	under [][]bool
	m     impl.Machine
}

func (d *machinist) number() impl.Value {
	return number([]int64{0, 0, 1, -1, 2, 7, least, greatest}[d.next(8)])
}

// ofKind is a Value that Fits this kind where there is one, most of the time.
func (d *machinist) ofKind(kind int64) impl.Value {
	if d.next(15) == 0 || kind == impl.TyNone {
		kind = int64(d.next(len(d.p.Classes)+1) - 1)
	}
	switch kind {
	case impl.TyInt:
		return d.number()
	case impl.TyNull:
		return null()
	}
	fits := func(k int64) bool { return isThere(d.p, k) && d.under[k][kind] }
	var some []impl.Value
	for at, o := range d.m.Heap {
		if fits(o.Class) {
			some = append(some, object(int64(at)))
		}
	}
	if len(some) == 0 || d.next(6) == 0 {
		return null()
	}
	if d.next(40) == 0 {
		return object(int64(len(d.m.Heap) + d.next(2)))
	}
	return some[d.next(len(some))]
}

func (d *machinist) heap() {
	n := d.next(9)
	if d.next(6) == 0 {
		n = 49 + d.next(2)
	}
	for range n {
		class := int64(d.next(len(d.p.Classes)))
		o := newObject(d.p, class)
		if d.next(12) == 0 {
			o.Fields = o.Fields[:d.next(len(o.Fields)+1)]
		}
		if d.next(20) == 0 {
			o.Class = []int64{-1, int64(len(d.p.Classes)), 99}[d.next(3)]
		}
		d.m.Heap = append(d.m.Heap, o)
	}
	for at, o := range d.m.Heap {
		for k := range o.Fields {
			kind := int64(impl.TyNone)
			if isThere(d.p, o.Class) {
				kind = fieldsIn(d.p, int(o.Class))[k]
			}
			d.m.Heap[at].Fields[k] = d.ofKind(kind)
		}
	}
}

func (d *machinist) frame() impl.Frame {
	all := methodsOf(d.p)
	at := all[d.next(len(all))]
	f := impl.Frame{Class: at[0], Name: at[1]}
	code := followerOf(d.p, f.Class, f.Name).method.Code
	f.At = int64(d.next(len(code)))
	for range 8 {
		f.Locals = append(f.Locals, d.ofKind(impl.TyNone))
	}
	for range d.next(9) {
		f.Stack = append(f.Stack, d.ofKind(impl.TyNone))
	}
	switch d.next(60) {
	case 0:
		f.At = int64(len(code))
	case 1:
		f.At = -1
	case 2:
		f.Name = int64(d.next(21))
	case 3:
		f.Class = int64(d.next(8) - 1)
	}
	return f
}

// wanted has on its Stack what its Insn takes, most of the time.
func (d *machinist) wanted() impl.Frame {
	f := d.frame()
	if !isThere(d.p, f.Class) || !ownsName(d.p, f.Class, f.Name) {
		return f
	}
	of := followerOf(d.p, f.Class, f.Name)
	if f.At < 0 || f.At >= int64(len(of.method.Code)) {
		return f
	}
	takes, _ := of.takes(of.method.Code[f.At])
	for _, allowed := range takes {
		f.Stack = append(f.Stack, d.ofKind(allowed[d.next(len(allowed))]))
	}
	if len(f.Stack) > 8 {
		f.Stack = f.Stack[len(f.Stack)-8:]
	}
	return f
}

func drawnMachine(seed uint64, p impl.Program) impl.Machine {
	d := &machinist{next: drawer(seed), p: p, under: underIn(p)}
	d.heap()
	n := d.next(4)
	if d.next(6) == 0 {
		n = 28 + d.next(2)
	}
	for range n {
		d.m.Frames = append(d.m.Frames, d.frame())
	}
	d.m.Frames = append(d.m.Frames, d.wanted())
	d.m.Said = slices.Repeat([]int64{int64(d.next(9))}, d.next(4))
	if d.next(50) == 0 {
		d.m.Said = make([]int64, 19999+d.next(2))
	}
	d.m.Code = int64(d.next(3))
	if d.next(40) == 0 {
		d.m.End = int64(d.next(7))
	}
	return d.m
}

// stepNext is the Insn that a machine comes to next.
func stepNext(p impl.Program, m impl.Machine) (impl.Insn, bool) {
	if len(m.Frames) == 0 {
		return impl.Insn{}, false
	}
	top := m.Frames[len(m.Frames)-1]
	own, is := impl.MethodOf(p, top.Class, top.Name)
	if !is || top.At < 0 || top.At >= int64(len(own.Code)) {
		return impl.Insn{}, false
	}
	return own.Code[top.At], true
}

// muddled has an Insn of any kind at each place, naming what is there or not.
func muddled(seed uint64) impl.Program {
	p := livelyProgram(seed)
	next := drawer(seed)
	for k := range p.Classes {
		for j := range p.Classes[k].Methods {
			code := p.Classes[k].Methods[j].Code
			for at := range code {
				if i := drawnInsn(next, p); next(2) == 0 && !goes(i) {
					code[at] = i
				}
			}
		}
	}
	return p
}

func TestPromise8SteppedAsTold(t *testing.T) {
	done, ended := map[int64]int{}, map[int64]int{}
	for seed := range uint64(900) {
		p := muddled(seed)
		if why := wrongWith(p); why != "" {
			t.Fatalf("drawn by %d: %s is wrong", seed, why)
		}
		for k := range uint64(40) {
			m := drawnMachine(seed*41+k, p)
			want := told(p, m)
			got := impl.Stepped(p, m)
			if !sameMachine(got, want) || !isMachine(m) || !impl.MachineOk(m) || !impl.MachineOk(got) {
				i, _ := stepNext(p, m)
				t.Fatalf("Stepped by %s = %v, want %v, of %v, %s", impl.ShowInsn(i), got, want, m, impl.ShowProgram(p))
			}
			if i, is := stepNext(p, m); is && m.End == impl.EnRuns && got.End <= impl.EnGave {
				done[i.Op]++
			}
			ended[got.End]++
		}
	}
	for op := int64(impl.OpPush); op <= impl.OpGive; op++ {
		if done[op] < 50 {
			t.Errorf("Op %d was done only %d times", op, done[op])
		}
	}
	for end := int64(impl.EnRuns); end <= impl.EnStuck; end++ {
		if ended[end] < 30 {
			t.Errorf("only %d ended by %d", ended[end], end)
		}
	}
}

// TestPromise8MachineOkAsTold changes one number of a drawn machine for another one.
func TestPromise8MachineOkAsTold(t *testing.T) {
	right, wrong := 0, 0
	numbers := []int64{math.MinInt64, least - 1, least, -1, 0, 1, 2, 3, 4, 6, 7, greatest, greatest + 1, math.MaxInt64}
	for seed := range uint64(3000) {
		next := drawer(seed)
		p := lone()
		m := drawnMachine(seed, p)
		n := numbers[next(len(numbers))]
		list := m.Frames[next(len(m.Frames))].Locals
		if len(m.Heap) > 0 && next(3) == 0 {
			m.Heap[next(len(m.Heap))].Fields = list[:next(9)]
		}
		switch next(5) {
		case 0:
			list[next(8)].N = n
		case 1:
			list[next(8)].Kind = n
		case 2:
			m.End = n
		case 3:
			m.Said = append(m.Said, n)
		case 4:
			m.Code, m.Frames[0].At, m.Frames[0].Class, m.Frames[0].Name = n, n, n, n
		}
		want := isMachine(m)
		if got := impl.MachineOk(m); got != want || isZeroMachine(impl.Stepped(p, m)) == want {
			t.Fatalf("MachineOk = %v, Stepped = %v, of %v", got, impl.Stepped(p, m), m)
		}
		if want {
			right++
		} else {
			wrong++
		}
	}
	if right < 500 || wrong < 500 {
		t.Errorf("only %d right and %d wrong ones", right, wrong)
	}
}

// misfit says which Value of a run of what is Sound is not of its kind, by Frames of the methods that run; empty when all are.
func misfit(p impl.Program, l lattice, m impl.Machine, frames map[[2]int64][]impl.State) string {
	fits := func(vs []impl.Value, kinds []int64) bool {
		return slices.EqualFunc(vs, kinds, func(v impl.Value, kind int64) bool {
			there := v.Kind != impl.VaRef || v.N < int64(len(m.Heap))
			return there && l.fit(kindIn(p, m, v), kind)
		})
	}
	for at, o := range m.Heap {
		if !isThere(p, o.Class) || !fits(o.Fields, fieldsIn(p, int(o.Class))) {
			return fmt.Sprint("object ", at)
		}
	}
	for at, f := range m.Frames {
		states := frames[[2]int64{f.Class, f.Name}]
		if f.At < 0 || f.At >= int64(len(states)) || len(states[f.At].Locals) == 0 {
			return fmt.Sprint("where frame ", at, " is")
		}
		want := states[f.At]
		stack := want.Stack
		if at < len(m.Frames)-1 {
			// It waits: what the call took is gone, what it gives is not there yet.
			of := followerOf(p, f.Class, f.Name)
			takes, _ := of.takes(of.method.Code[f.At])
			stack = stack[:len(stack)-len(takes)]
			if of.method.Code[f.At].Op != impl.OpCall {
				return fmt.Sprint("what frame ", at, " waits for")
			}
		}
		if !fits(f.Stack, stack) || !fits(f.Locals, want.Locals) {
			return fmt.Sprint("frame ", at)
		}
	}
	return ""
}

// checkSoundRun goes step by step, with a machine told once more beside it.
func checkSoundRun(t *testing.T, p impl.Program, n int64) impl.Machine {
	t.Helper()
	frames := map[[2]int64][]impl.State{}
	for _, at := range methodsOf(p) {
		frames[at], _, _ = impl.Frames(p, at[0], at[1])
	}
	l := latticeIn(p)
	m, is := impl.Started(p)
	steps := int64(0)
	for ; m.End == impl.EnRuns && steps < n; steps++ {
		if why := misfit(p, l, m, frames); why != "" || !is || !impl.MachineOk(m) {
			t.Fatalf("ahead of step %d %s is wrong: %v, of %s", steps, why, m, impl.ShowProgram(p))
		}
		if steps < 12 || steps%16 == 0 {
			if ran, cost := impl.Ran(p, steps), impl.Cost(p, steps); !sameMachine(ran, m) || cost != steps {
				t.Fatalf("Ran(%d) = %v, Cost = %d, want %v, of %s", steps, ran, cost, m, impl.ShowProgram(p))
			}
		}
		after := impl.Stepped(p, m)
		if !sameMachine(after, told(p, m)) {
			t.Fatalf("Stepped = %v, of %v, %s", after, m, impl.ShowProgram(p))
		}
		m = after
	}
	if ran, cost := impl.Ran(p, n), impl.Cost(p, n); !sameMachine(ran, m) || cost != steps || m.End == impl.EnStuck {
		t.Fatalf("Ran(%d) = %v, Cost = %d, want %v, %d, of %s", n, ran, cost, m, steps, impl.ShowProgram(p))
	}
	return m
}

func TestPromise8WhatIsSoundIsNeverStuck(t *testing.T) {
	ended, said, below, stuck := map[int64]int{}, 0, 0, 0
	for seed := range uint64(2500) {
		p := livelyProgram(seed)
		if !impl.Sound(p) {
			if impl.Ran(p, 2000).End == impl.EnStuck {
				stuck++
			}
			continue
		}
		m := checkSoundRun(t, p, 120)
		below += min(1, len(m.Frames)/2)
		end := impl.Ran(p, 20000)
		if end.End == impl.EnStuck || !impl.MachineOk(end) {
			t.Fatalf("stuck: %s", impl.ShowProgram(p))
		}
		ended[end.End]++
		said += min(1, len(end.Said))
	}
	if stuck < 50 || said < 50 || below < 30 {
		t.Errorf("only %d that are not Sound are stuck, %d have said something, %d are deep", stuck, said, below)
	}
	for end := int64(impl.EnRuns); end < impl.EnStuck; end++ {
		if ended[end] < 5 {
			t.Errorf("only %d ended by %d", ended[end], end)
		}
	}
}

// TestPromise8SoundCases are codes in which each check of the checker holds off one way to be stuck.
func TestPromise8SoundCases(t *testing.T) {
	for _, c := range runCases() {
		p := coded(t, 0, 0, c.text)
		if impl.Sound(p) {
			checkSoundRun(t, p, 400)
		} else if end := impl.Ran(p, 400).End; end != impl.EnStuck {
			t.Errorf("%s is not Sound, and ends by %d", c.text, end)
		}
	}
}

// A machinePart is one list of a machine.
type machinePart struct {
	show  func() string
	spoil func()
}

// spoiler writes into a list and into the room behind it.
func spoiler[T any](list []T, with T) machinePart {
	return machinePart{func() string { return fmt.Sprint(list) }, func() {
		for k := range list[:cap(list)] {
			list[:cap(list)][k] = with
		}
	}}
}

// machineParts are all lists of a machine, the inner ones first.
func machineParts(m impl.Machine) []machinePart {
	odd := impl.Value{Kind: 77, N: 77}
	parts := []machinePart{spoiler(m.Said, 77)}
	for _, o := range m.Heap {
		parts = append(parts, spoiler(o.Fields, odd))
	}
	for _, f := range m.Frames {
		parts = append(parts, spoiler(f.Stack, odd), spoiler(f.Locals, odd))
	}
	return append(parts, spoiler(m.Heap, impl.Object{Class: 77}), spoiler(m.Frames, impl.Frame{Class: 77}))
}

// checkNothingShared writes into one list after the other, and looks at those inner ones that nothing was written into yet.
func checkNothingShared(t *testing.T, why string, m impl.Machine) {
	t.Helper()
	parts := machineParts(m)
	var want []string
	for _, part := range parts {
		want = append(want, part.show())
	}
	for k, part := range parts {
		if k < len(parts)-2 && part.show() != want[k] {
			t.Fatalf("%s: list %d shares memory with one ahead of it", why, k)
		}
		part.spoil()
	}
}

// roomyMachine gives each list of a machine spare room with a mark in it; the lists that it answers are the whole ones.
func roomyMachine(m impl.Machine) (impl.Machine, []any) {
	m = twinMachine(m)
	var whole []any
	mark := impl.Value{Kind: 55, N: 55}
	room := func(list []impl.Value) []impl.Value {
		all := append(slices.Clone(list), mark, mark, mark)
		whole = append(whole, all)
		return all[:len(list)]
	}
	for k := range m.Heap {
		m.Heap[k].Fields = room(m.Heap[k].Fields)
	}
	for k := range m.Frames {
		m.Frames[k].Stack, m.Frames[k].Locals = room(m.Frames[k].Stack), room(m.Frames[k].Locals)
	}
	heap := append(slices.Clone(m.Heap), impl.Object{Class: 55}, impl.Object{Class: 55})
	frames := append(slices.Clone(m.Frames), impl.Frame{Class: 55}, impl.Frame{Class: 55})
	said := append(slices.Clone(m.Said), 55, 55)
	m.Heap, m.Frames, m.Said = heap[:len(m.Heap)], frames[:len(m.Frames)], said[:len(m.Said)]
	return m, append(whole, heap, frames, said)
}

// checkSteppedMemory writes into what Stepped answers; neither an argument nor an answer of before or after changes by it.
func checkSteppedMemory(t *testing.T, plain impl.Program, of impl.Machine) {
	t.Helper()
	p, wholeProgram := roomy(plain)
	_, wantProgram := roomy(plain)
	m, whole := roomyMachine(of)
	_, want := roomyMachine(of)
	got, second := impl.Stepped(p, m), impl.Stepped(p, m)
	kept := twinMachine(got)
	impl.MachineOk(m)
	impl.Heard(m)
	checkNothingShared(t, "Stepped", got)
	third := impl.Stepped(p, m)
	if !sameMachine(second, kept) || !sameMachine(third, kept) {
		t.Fatalf("Stepped = %v, and again %v, want %v", second, third, kept)
	}
	if !sameMachine(m, of) || !reflect.DeepEqual(whole, want) {
		t.Fatalf("a machine, or the room behind it, is changed: %v", of)
	}
	if !sameProgram(p, plain) || !reflect.DeepEqual(wholeProgram, wantProgram) {
		t.Fatalf("a program, or the room behind it, is changed: %v", plain)
	}
}

func TestPromise21MachineAnswersAreNewMemory(t *testing.T) {
	for _, c := range slices.Concat(wordCases(), moveCases(), objectCases(), callCases(), []stepCase8{{step: "t", stack: "@3"}, {step: "t", stack: "5"}, {step: "g", stack: "1 0"}}) {
		p := sceneProgram(t, c.step)
		checkSteppedMemory(t, p, scene(c.stack))
		checkSteppedMemory(t, p, endedBy(scene(c.stack), impl.EnZero))
		checkSteppedMemory(t, p, endedBy(scene(c.stack), -1))
	}
	for seed := range uint64(400) {
		p := muddled(seed)
		for k := range uint64(5) {
			checkSteppedMemory(t, p, drawnMachine(seed*7+k, p))
		}
		checkSteppedMemory(t, drawnProgram(seed), drawnMachine(seed, p))
		checkRunMemory(t, livelyProgram(seed))
	}
	for _, c := range runCases() {
		checkRunMemory(t, coded(t, 0, 0, c.text))
	}
	checkRunMemory(t, impl.Program{})
}

// checkRunMemory writes into what Started and Ran answer.
func checkRunMemory(t *testing.T, plain impl.Program) {
	t.Helper()
	p, whole := roomy(plain)
	_, wantWhole := roomy(plain)
	first, is := impl.Started(p)
	want := twinMachine(first)
	checkNothingShared(t, "Started", first)
	if again, still := impl.Started(p); still != is || !sameMachine(again, want) {
		t.Fatalf("Started again = %v, %v, want %v", again, still, want)
	}
	for _, n := range []int64{-1, 0, 1, 7, 40, 150, 1000} {
		ran, second := impl.Ran(p, n), impl.Ran(p, n)
		kept := twinMachine(ran)
		cost := impl.Cost(p, n)
		checkNothingShared(t, "Ran", ran)
		if third := impl.Ran(p, n); !sameMachine(second, kept) || !sameMachine(third, kept) || impl.Cost(p, n) != cost {
			t.Fatalf("Ran(%d) = %v, and again %v, want %v", n, second, third, kept)
		}
	}
	if !sameProgram(p, plain) || !reflect.DeepEqual(whole, wantWhole) {
		t.Fatalf("a program, or the room behind it, is changed: %v", plain)
	}
}

// TestPromise21MachineAnswersAlways asks with numbers from everywhere.
func TestPromise21MachineAnswersAlways(t *testing.T) {
	numbers := []int64{math.MinInt64, -1 << 32, -3, -2, -1, 0, 1, 2, 3, 5, 6, 7, 19, 20, 39, 40, 50, 1 << 32, math.MaxInt64}
	programs := []impl.Program{{}, lone(), family(), sceneProgram(t, "t"), sceneProgram(t, "o4,2"), sceneProgram(t, "q0,0")}
	for _, p := range wrongFamilies(t) {
		programs = append(programs, p)
	}
	for _, p := range programs {
		for _, a := range numbers {
			for _, b := range numbers {
				m := scene("1 @4")
				m.Frames[0].Class, m.Frames[0].Name, m.Frames[0].At = a, b, a
				m.Frames[1].Stack[1], m.Heap[4].Class = object(a), b
				m.Code = a
				if got := impl.Stepped(p, m); !sameMachine(got, told(p, m)) {
					t.Fatalf("Stepped = %v, of %v", got, m)
				}
				m.Frames[1].Class, m.Frames[1].Name, m.Frames[1].At = b, a, b
				impl.Stepped(p, m)
				m.Frames[1].Locals, m.End = nil, a
				impl.Stepped(p, m)
				impl.Heard(m)
				impl.MachineOk(m)
			}
			impl.Ran(p, a)
			impl.Cost(p, a)
		}
		impl.Started(p)
	}
	for _, m := range []impl.Machine{{}, {Frames: make([]impl.Frame, 30)}, {Heap: make([]impl.Object, 51)}, {Said: make([]int64, 100000)}, {End: 9}} {
		impl.Heard(m)
		if impl.MachineOk(m) || !isZeroMachine(impl.Stepped(lone(), m)) {
			t.Errorf("%v is a machine", m)
		}
	}
}
