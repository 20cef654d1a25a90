package tests

import (
	"fmt"
	"math"
	"slices"
	"strconv"
	"strings"
	"testing"

	"loop.example/g00334/impl"
)

func number(n int64) impl.Value { return impl.Value{Kind: impl.VaInt, N: n} }

func object(n int64) impl.Value { return impl.Value{Kind: impl.VaRef, N: n} }

func null() impl.Value { return impl.Value{Kind: impl.VaNull} }

// values reads numbers, objects (@ ahead of the number) and nulls (-), with blanks between.
func values(text string) []impl.Value {
	var out []impl.Value
	for _, one := range strings.Fields(text) {
		if one == "-" {
			out = append(out, null())
			continue
		}
		digits, isObject := strings.CutPrefix(one, "@")
		n, err := strconv.ParseInt(digits, 10, 64)
		if err != nil {
			panic(text)
		}
		out = append(out, impl.Value{Kind: impl.VaInt, N: n})
		if isObject {
			out[len(out)-1].Kind = impl.VaRef
		}
	}
	return out
}

func twinObject(o impl.Object) impl.Object {
	return impl.Object{Class: o.Class, Fields: slices.Clone(o.Fields)}
}

func twinFrame(f impl.Frame) impl.Frame {
	f.Stack, f.Locals = slices.Clone(f.Stack), slices.Clone(f.Locals)
	return f
}

// twinMachine shares no memory with m.
func twinMachine(m impl.Machine) impl.Machine {
	out := impl.Machine{Said: slices.Clone(m.Said), End: m.End, Code: m.Code}
	for _, o := range m.Heap {
		out.Heap = append(out.Heap, twinObject(o))
	}
	for _, f := range m.Frames {
		out.Frames = append(out.Frames, twinFrame(f))
	}
	return out
}

func sameObject(a impl.Object, b impl.Object) bool {
	return a.Class == b.Class && slices.Equal(a.Fields, b.Fields)
}

func sameFrame(a impl.Frame, b impl.Frame) bool {
	return a.Class == b.Class && a.Name == b.Name && a.At == b.At && slices.Equal(a.Stack, b.Stack) && slices.Equal(a.Locals, b.Locals)
}

func sameMachine(a impl.Machine, b impl.Machine) bool {
	return slices.EqualFunc(a.Heap, b.Heap, sameObject) && slices.EqualFunc(a.Frames, b.Frames, sameFrame) && slices.Equal(a.Said, b.Said) && a.End == b.End && a.Code == b.Code
}

func isZeroMachine(m impl.Machine) bool { return sameMachine(m, impl.Machine{}) }

// endedBy is m with another End, and all else as it is.
func endedBy(m impl.Machine, end int64) impl.Machine {
	out := twinMachine(m)
	out.End = end
	return out
}

// sceneFields are the fields of object k, of class k, for each class of family.
func sceneFields() []string {
	return []string{"11 -", "", "12 @5 @2", "@4 13 @0 @1", "10 @5 @2 20 30 @4", ""}
}

// Objects of a scene behind those of the six classes: one of class 4 whose last field lacks, and two whose class is not there.
const (
	sceneShort   = 6
	sceneNoClass = 7
	sceneMinus   = 8
	sceneObjects = 9
)

// scene is a machine of family's: it stands at Insn 1 of method 4 of class 4 (it takes classes 1, 2 and 3 and gives class 3), and class 0's method 0 waits at Insn 0 for it.
func scene(stack string) impl.Machine {
	var m impl.Machine
	for class, fields := range sceneFields() {
		m.Heap = append(m.Heap, impl.Object{Class: int64(class), Fields: values(fields)})
	}
	m.Heap = append(m.Heap, impl.Object{Class: 4, Fields: values("1 - - 2 3")}, impl.Object{Class: 6, Fields: values("1 2 3 4 5 6 7 8")}, impl.Object{Class: -1, Fields: values("1 2 3 4 5 6 7 8")})
	m.Frames = []impl.Frame{
		{Stack: values("70 @0"), Locals: values("@0 0 0 0 0 0 0 0")},
		{Class: 4, Name: 4, At: 1, Stack: values(stack), Locals: values("@4 1 - @0 @2 5 @3 7")},
	}
	m.Said = []int64{8, -8}
	m.Code = 66
	return m
}

// sceneProgram has this step at Insn 1 of method 4 of class 4, of four.
func sceneProgram(t *testing.T, step string) impl.Program {
	t.Helper()
	return coded(t, 4, 4, "k0 "+step+" k0 k0")
}

func checkStepped(t *testing.T, why string, p impl.Program, m impl.Machine, want impl.Machine) {
	t.Helper()
	if !impl.MachineOk(m) {
		t.Fatalf("%s: the test's own machine is none: %v", why, m)
	}
	if got := impl.Stepped(p, m); !sameMachine(got, want) || !impl.MachineOk(got) {
		t.Errorf("%s: Stepped = %v, want %v, of %v", why, got, want, m)
	}
}

// A machineChange makes of a right machine another one that is right or is not.
type machineChange struct {
	why    string
	right  bool
	change func(m *impl.Machine)
}

// valueCases are Values at each limit of their Kind.
func valueCases() map[impl.Value]bool {
	return map[impl.Value]bool{
		number(0): true, number(least): true, number(greatest): true, number(least - 1): false, number(greatest + 1): false, number(math.MinInt64): false, number(math.MaxInt64): false,
		object(0): true, object(1): true, object(50): true, object(1 << 40): true, object(math.MaxInt64): true, object(-1): false, object(math.MinInt64): false,
		null(): true, {Kind: impl.VaNull, N: 1}: false, {Kind: impl.VaNull, N: -1}: false,
		{Kind: 0}: false, {Kind: 4}: false, {Kind: -1}: false, {Kind: 0, N: 5}: false, {Kind: math.MaxInt64}: false, {Kind: math.MinInt64}: false, {Kind: 1 << 32}: false, {Kind: 1<<32 + 1}: false,
	}
}

// limitChanges are each limit met exactly and passed by one.
func limitChanges() []machineChange {
	many := func(n int) []impl.Value { return slices.Repeat(values("1"), n) }
	frame := func() impl.Frame { return impl.Frame{Locals: many(8)} }
	var changes []machineChange
	add := func(why string, right bool, change func(m *impl.Machine)) {
		changes = append(changes, machineChange{why, right, change})
	}
	for n, right := range map[int]bool{0: true, 1: true, 49: true, 50: true, 51: false, 100: false} {
		add(fmt.Sprint(n, " objects"), right, func(m *impl.Machine) { m.Heap = make([]impl.Object, n) })
	}
	for n, right := range map[int]bool{0: true, 23: true, 24: true, 25: false, 48: false} {
		add(fmt.Sprint(n, " fields of the first"), right, func(m *impl.Machine) { m.Heap[0].Fields = many(n) })
		add(fmt.Sprint(n, " fields of the last"), right, func(m *impl.Machine) { m.Heap[sceneObjects-1].Fields = many(n) })
	}
	for n, right := range map[int]bool{0: false, 1: true, 29: true, 30: true, 31: false, 60: false} {
		add(fmt.Sprint(n, " frames"), right, func(m *impl.Machine) {
			m.Frames = nil
			for range n {
				m.Frames = append(m.Frames, frame())
			}
		})
	}
	for n, right := range map[int]bool{0: true, 7: true, 8: true, 9: false, 16: false} {
		add(fmt.Sprint(n, " on the first stack"), right, func(m *impl.Machine) { m.Frames[0].Stack = many(n) })
		add(fmt.Sprint(n, " on the last stack"), right, func(m *impl.Machine) { m.Frames[1].Stack = many(n) })
	}
	for n, right := range map[int]bool{0: false, 7: false, 8: true, 9: false} {
		add(fmt.Sprint(n, " locals of the first"), right, func(m *impl.Machine) { m.Frames[0].Locals = many(n) })
		add(fmt.Sprint(n, " locals of the last"), right, func(m *impl.Machine) { m.Frames[1].Locals = many(n) })
	}
	for n, right := range map[int]bool{0: true, 1: true, 19999: true, 20000: true, 20001: false} {
		add(fmt.Sprint(n, " said"), right, func(m *impl.Machine) { m.Said = make([]int64, n) })
	}
	for n, right := range map[int64]bool{least: true, greatest: true, least - 1: false, greatest + 1: false} {
		add(fmt.Sprint(n, " said first"), right, func(m *impl.Machine) { m.Said[0] = n })
		add(fmt.Sprint(n, " said last"), right, func(m *impl.Machine) { m.Said[1] = n })
	}
	return changes
}

func TestPromise8MachineOkLimits(t *testing.T) {
	for _, c := range limitChanges() {
		m := scene("1 2")
		c.change(&m)
		if got := impl.MachineOk(m); got != c.right {
			t.Errorf("%s: MachineOk = %v", c.why, got)
		}
		if len(m.Frames) > 0 {
			continue
		}
		for end := int64(impl.EnGave); end <= impl.EnStuck; end++ {
			m.End = end
			if !impl.MachineOk(m) {
				t.Errorf("%s: MachineOk is false of End %d", c.why, end)
			}
		}
	}
	if impl.MachineOk(impl.Machine{}) || !impl.MachineOk(impl.Machine{End: impl.EnGave}) {
		t.Error("the zero Machine runs without a Frame, one that has ended needs none")
	}
}

func TestPromise8MachineOkValues(t *testing.T) {
	places := map[string]func(m *impl.Machine) *impl.Value{
		"first field":    func(m *impl.Machine) *impl.Value { return &m.Heap[0].Fields[0] },
		"last field":     func(m *impl.Machine) *impl.Value { return &m.Heap[sceneObjects-1].Fields[7] },
		"first on stack": func(m *impl.Machine) *impl.Value { return &m.Frames[0].Stack[0] },
		"last on stack":  func(m *impl.Machine) *impl.Value { return &m.Frames[1].Stack[1] },
		"first local":    func(m *impl.Machine) *impl.Value { return &m.Frames[0].Locals[0] },
		"last local":     func(m *impl.Machine) *impl.Value { return &m.Frames[1].Locals[7] },
	}
	for where, place := range places {
		for v, right := range valueCases() {
			m := scene("1 2")
			*place(&m) = v
			for end := int64(impl.EnRuns); end <= impl.EnStuck; end++ {
				m.End = end
				if got := impl.MachineOk(m); got != right {
					t.Errorf("%s %v: MachineOk = %v with End %d", where, v, got, end)
				}
			}
		}
	}
}

func TestPromise8MachineOkNumbers(t *testing.T) {
	for _, n := range []int64{math.MinInt64, -2, -1, 0, 1, 3, 5, 6, 7, 8, 100, 1 << 32, math.MaxInt64} {
		m := scene("1 2")
		m.End = n
		if got, want := impl.MachineOk(m), n >= 0 && n <= 6; got != want {
			t.Errorf("MachineOk = %v with End %d", got, n)
		}
		m = scene("1 2")
		m.Code, m.Heap[0].Class = n, n
		m.Frames[0].Class, m.Frames[0].Name, m.Frames[1].At = n, n, n
		if !impl.MachineOk(m) {
			t.Errorf("MachineOk is false with %d as Code, Class, Name and At", n)
		}
	}
}

func TestPromise8Started(t *testing.T) {
	for _, c := range []struct {
		types  []int64
		fields string
	}{
		{nil, ""},
		{[]int64{impl.TyInt}, "0"},
		{[]int64{0}, "-"},
		{[]int64{5, impl.TyInt, 0, 3}, "- 0 - -"},
		{[]int64{impl.TyInt, impl.TyInt, 4, impl.TyInt}, "0 0 - 0"},
	} {
		p := soundFamily()
		p.Classes[0].Fields = c.types
		want := impl.Machine{
			Heap:   []impl.Object{{Fields: values(c.fields)}},
			Frames: []impl.Frame{{Locals: values("@0 0 0 0 0 0 0 0")}},
		}
		if got, is := impl.Started(p); !is || !sameMachine(got, want) || !impl.MachineOk(got) {
			t.Errorf("Started with fields %v = %v, %v", c.types, got, is)
		}
	}
	// Fields above class 0 can't be: whoever is above has a lesser number.
	for _, super := range []int64{0, 1, 5, -2} {
		p := soundFamily()
		p.Classes[0].Super = super
		if got, is := impl.Started(p); is || !isZeroMachine(got) {
			t.Errorf("Started with %d above class 0 = %v, %v", super, got, is)
		}
	}
}

// A stepCase8 is a step done in a scene: what is on its Stack ahead and behind, which Insn comes next, and what else is changed.
type stepCase8 struct {
	step, stack, after string
	at                 int64
	change             func(m *impl.Machine)
}

func wordCases() []stepCase8 {
	return []stepCase8{
		{"a5", "", "5", 2, nil},
		{"a0", "1 @2", "1 @2 0", 2, nil},
		{"a-2147483648", "-", "- -2147483648", 2, nil},
		{"a2147483647", "7 7 7 7 7 7 7", "7 7 7 7 7 7 7 2147483647", 2, nil},
		{"d", "9 2 3", "9 5", 2, nil},
		{"d", "2147483647 1", "-2147483648", 2, nil},
		{"d", "-2147483648 -1", "2147483647", 2, nil},
		{"e", "9 2 3", "9 -1", 2, nil},
		{"e", "-2147483648 1", "2147483647", 2, nil},
		{"f", "9 -2 3", "9 -6", 2, nil},
		{"f", "65536 65536", "0", 2, nil},
		{"f", "2147483647 2147483647", "1", 2, nil},
		{"g", "9 7 2", "9 3", 2, nil},
		{"g", "-7 2", "-3", 2, nil},
		{"g", "0 7", "0", 2, nil},
		{"g", "-2147483648 -1", "-2147483648", 2, nil},
		{"d", "1 2 3 4 5 6 7 8", "1 2 3 4 5 6 15", 2, nil},
		{"r", "1 -", "1 1", 2, nil},
		{"r", "1 @0", "1 0", 2, nil},
		{"r", "@6", "0", 2, nil},
		{"s", "1 5", "1", 2, func(m *impl.Machine) { m.Said = append(m.Said, 5) }},
		{"s", "-2147483648", "", 2, func(m *impl.Machine) { m.Said = append(m.Said, -2147483648) }},
	}
}

func moveCases() []stepCase8 {
	return []stepCase8{
		{"b0", "", "@4", 2, nil},
		{"b1", "9", "9 1", 2, nil},
		{"b2", "9", "9 -", 2, nil},
		{"b7", "1 2 3 4 5 6 7", "1 2 3 4 5 6 7 7", 2, nil},
		{"c0", "9 8", "9", 2, func(m *impl.Machine) { m.Frames[1].Locals[0] = number(8) }},
		{"c3", "@2", "", 2, func(m *impl.Machine) { m.Frames[1].Locals[3] = object(2) }},
		{"c7", "1 -", "1", 2, func(m *impl.Machine) { m.Frames[1].Locals[7] = null() }},
		{"h", "1 2", "1 2 2", 2, nil},
		{"h", "@3", "@3 @3", 2, nil},
		{"h", "1 2 3 4 5 6 -", "1 2 3 4 5 6 - -", 2, nil},
		{"i", "1 2", "1", 2, nil},
		{"i", "@7", "", 2, nil},
		{"j", "9 1 -", "9 - 1", 2, nil},
		{"j", "1 2 3 4 5 6 7 @8", "1 2 3 4 5 6 @8 7", 2, nil},
		{"k3", "1", "1", 3, nil},
		{"k1", "", "", 1, nil},
		{"k0", "1 2 3 4 5 6 7 8", "1 2 3 4 5 6 7 8", 0, nil},
		{"l3", "4 0", "4", 3, nil},
		{"l3", "4 1", "4", 2, nil},
		{"l3", "-1", "", 2, nil},
		{"l3", "-2147483648", "", 2, nil},
		{"l1", "0", "", 1, nil},
		{"l2", "0", "", 2, nil},
		{"l0", "5 0", "5", 0, nil},
		{"m", "5", "5 -", 2, nil},
		{"m", "1 2 3 4 5 6 7", "1 2 3 4 5 6 7 -", 2, nil},
		// What is only moved need not be there.
		{"c3", "@99", "", 2, func(m *impl.Machine) { m.Frames[1].Locals[3] = object(99) }},
		{"h", "@99", "@99 @99", 2, nil},
		{"i", "@99", "", 2, nil},
		{"j", "@99 @8", "@8 @99", 2, nil},
	}
}

func objectCases() []stepCase8 {
	born := func(class int64, fields string) func(m *impl.Machine) {
		return func(m *impl.Machine) {
			m.Heap = append(m.Heap, impl.Object{Class: class, Fields: values(fields)})
		}
	}
	field := func(object int, place int, v string) func(m *impl.Machine) {
		return func(m *impl.Machine) { m.Heap[object].Fields[place] = values(v)[0] }
	}
	return []stepCase8{
		{"n0", "", "@9", 2, born(0, "0 -")},
		{"n1", "5", "5 @9", 2, born(1, "")},
		{"n2", "5", "5 @9", 2, born(2, "0 - -")},
		{"n3", "5", "5 @9", 2, born(3, "- 0 - -")},
		{"n4", "1 2 3 4 5 6 7", "1 2 3 4 5 6 7 @9", 2, born(4, "0 - - 0 0 -")},
		{"n5", "@9", "@9 @9", 2, born(5, "")},
		{"o0,0", "9 @0", "9 11", 2, nil},
		{"o0,1", "@0", "-", 2, nil},
		{"o0,0", "@2", "12", 2, nil},
		{"o0,0", "@4", "10", 2, nil},
		{"o0,1", "@4", "@5", 2, nil},
		{"o2,0", "@2", "@2", 2, nil},
		{"o2,0", "@4", "@2", 2, nil},
		{"o4,0", "@4", "20", 2, nil},
		{"o4,1", "1 2 3 4 5 6 7 @4", "1 2 3 4 5 6 7 30", 2, nil},
		{"o4,2", "@4", "@4", 2, nil},
		{"o3,0", "@3", "@4", 2, nil},
		{"o3,3", "@3", "@1", 2, nil},
		{"o4,1", "@6", "3", 2, nil},
		{"p0,0", "9 @0 7", "9", 2, field(0, 0, "7")},
		{"p0,0", "@4 7", "", 2, field(4, 0, "7")},
		{"p0,1", "@2 @5", "", 2, field(2, 1, "@5")},
		{"p0,1", "@2 -", "", 2, field(2, 1, "-")},
		{"p2,0", "@4 @4", "", 2, field(4, 2, "@4")},
		{"p2,0", "@2 -", "", 2, field(2, 2, "-")},
		{"p4,0", "@4 -7", "", 2, field(4, 3, "-7")},
		{"p4,2", "@4 -", "", 2, field(4, 5, "-")},
		{"p4,2", "@4 @6", "", 2, field(4, 5, "@6")},
		{"p3,1", "@3 2147483647", "", 2, field(3, 1, "2147483647")},
		{"p3,2", "@3 @4", "", 2, field(3, 2, "@4")},
		{"p4,1", "@6 -9", "", 2, field(6, 4, "-9")},
	}
}

// callCases: the caller waits at its Insn.
func callCases() []stepCase8 {
	called := func(class int64, name int64, locals string) func(m *impl.Machine) {
		return func(m *impl.Machine) {
			m.Frames = append(m.Frames, impl.Frame{Class: class, Name: name, Locals: values(locals)})
		}
	}
	return []stepCase8{
		{"q0,0", "9 @0", "9", 1, called(0, 0, "@0 0 0 0 0 0 0 0")},
		{"q0,0", "@2", "", 1, called(2, 0, "@2 0 0 0 0 0 0 0")},
		{"q0,0", "@4", "", 1, called(2, 0, "@4 0 0 0 0 0 0 0")},
		{"q2,0", "@4", "", 1, called(2, 0, "@4 0 0 0 0 0 0 0")},
		{"q4,0", "@6", "", 1, called(2, 0, "@6 0 0 0 0 0 0 0")},
		{"q0,19", "@4", "", 1, called(0, 19, "@4 0 0 0 0 0 0 0")},
		{"q0,3", "@0 5 @4", "", 1, called(0, 3, "@0 5 @4 0 0 0 0 0")},
		{"q0,3", "@2 5 @0", "", 1, called(0, 3, "@2 5 @0 0 0 0 0 0")},
		{"q0,3", "7 @4 5 -", "7", 1, called(4, 3, "@4 5 - 0 0 0 0 0")},
		{"q2,3", "@4 5 -", "", 1, called(4, 3, "@4 5 - 0 0 0 0 0")},
		{"q2,7", "@2 @4", "", 1, called(2, 7, "@2 @4 0 0 0 0 0 0")},
		{"q2,7", "@4 -", "", 1, called(4, 7, "@4 - 0 0 0 0 0 0")},
		{"q4,4", "@4 @3 @4 @3", "", 1, called(4, 4, "@4 @3 @4 @3 0 0 0 0")},
		{"q4,4", "1 2 3 4 @4 - @2 -", "1 2 3 4", 1, called(4, 4, "@4 - @2 - 0 0 0 0")},
		{"q1,1", "@3", "", 1, called(1, 1, "@3 0 0 0 0 0 0 0")},
		{"q5,0", "@5 @5", "", 1, called(5, 0, "@5 @5 0 0 0 0 0 0")},
	}
}

func TestPromise8SteppedOfEachOp(t *testing.T) {
	asked := map[int64]bool{impl.OpGive: true}
	for _, c := range slices.Concat(wordCases(), moveCases(), objectCases(), callCases()) {
		m, want := scene(c.stack), scene(c.after)
		want.Frames[1].At = c.at
		if c.change != nil {
			c.change(&want)
		}
		checkStepped(t, c.step+" with "+c.stack, sceneProgram(t, c.step), m, want)
		asked[insnOf(t, c.step).Op] = true
	}
	for op := int64(impl.OpPush); op <= impl.OpGive; op++ {
		if !asked[op] {
			t.Errorf("Op %d is not asked for", op)
		}
	}
}

// TestPromise8SteppedOfGive: with a Frame below that one goes on, with none it has ended.
func TestPromise8SteppedOfGive(t *testing.T) {
	p := sceneProgram(t, "t")
	for _, stack := range []string{"@3", "-", "1 2 3 4 5 6 7 @3"} {
		m := scene(stack)
		given := m.Frames[1].Stack[len(m.Frames[1].Stack)-1]
		want := scene("")
		want.Frames = want.Frames[:1]
		want.Frames[0].Stack, want.Frames[0].At = append(values("70 @0"), given), 1
		checkStepped(t, "give "+stack, p, m, want)
		alone := twinMachine(m)
		alone.Frames = alone.Frames[1:]
		want = scene("")
		want.Frames, want.End, want.Code = nil, impl.EnGave, given.N
		checkStepped(t, "give alone "+stack, p, alone, want)
	}
	p = coded(t, 0, 0, "k0 t")
	for _, n := range []int64{0, 1, -5, least, greatest} {
		m := scene("")
		m.Frames = []impl.Frame{{At: 1, Stack: []impl.Value{number(n)}, Locals: m.Frames[0].Locals}}
		want := twinMachine(m)
		want.Frames, want.End, want.Code = nil, impl.EnGave, n
		checkStepped(t, "give a number", p, m, want)
	}
	// The one below has room for just one, and for none.
	p = sceneProgram(t, "t")
	m := scene("@3")
	m.Frames[0].Stack = values("1 2 3 4 5 6 7")
	want := twinMachine(m)
	want.Frames = want.Frames[:1]
	want.Frames[0].Stack, want.Frames[0].At = append(want.Frames[0].Stack, object(3)), 1
	checkStepped(t, "give where there is room for one", p, m, want)
	m.Frames[0].Stack = append(m.Frames[0].Stack, number(8))
	checkStepped(t, "give where there is no room", p, m, endedBy(m, impl.EnStuck))
	// Of three it is the last that gives, and the one right below that goes on.
	m = scene("@3")
	m.Frames = []impl.Frame{{Class: 1, Name: 1, At: 7, Locals: m.Frames[0].Locals}, m.Frames[0], m.Frames[1]}
	want = twinMachine(m)
	want.Frames = want.Frames[:2]
	want.Frames[1].Stack, want.Frames[1].At = append(want.Frames[1].Stack, object(3)), 1
	checkStepped(t, "give with two below", p, m, want)
}

// sceneValues are some of each kind; those of TyNone can't be used: there is no such object, or no such class.
func sceneValues() map[int64][]impl.Value {
	kinds := map[int64][]impl.Value{
		impl.TyInt:  {number(0), number(-7)},
		impl.TyNull: {null()},
		impl.TyNone: {object(sceneObjects), object(math.MaxInt64), object(sceneNoClass), object(sceneMinus)},
	}
	for class := range int64(6) {
		kinds[class] = []impl.Value{object(class)}
	}
	return kinds
}

func ofNull(i impl.Insn) bool {
	return i.Op == impl.OpGet || i.Op == impl.OpPut || i.Op == impl.OpCall
}

// TestPromise8SteppedOfEachKind asks of all rows of kinds that a step could take: EnStuck just where one is not of the kind.
func TestPromise8SteppedOfEachKind(t *testing.T) {
	all := []int64{impl.TyInt, impl.TyNull, impl.TyNone, 0, 1, 2, 3, 4, 5}
	next := drawer(8)
	for _, c := range opCases() {
		p, i := sceneProgram(t, c.text), insnOf(t, c.text)
		for _, row := range rowsOf(all, len(c.takes)) {
			fine := true
			m := scene("")
			m.Frames[1].Locals[2] = number(2)
			for k, kind := range row {
				of := sceneValues()[kind]
				m.Frames[1].Stack = append(m.Frames[1].Stack, of[next(len(of))])
				fine = fine && slices.Contains(c.takes[k], kind)
			}
			got := impl.Stepped(p, m)
			want := int64(impl.EnRuns)
			switch {
			case !fine:
				want = impl.EnStuck
			case ofNull(i) && row[0] == impl.TyNull:
				want = impl.EnNull
			case i.Op == impl.OpDiv && m.Frames[1].Stack[1].N == 0:
				want = impl.EnZero
			}
			if got.End != want || !fine && !sameMachine(got, endedBy(m, impl.EnStuck)) {
				t.Fatalf("%s of %v: End %d, want %d", c.text, row, got.End, want)
			}
			if want == impl.EnRuns && i.Op == impl.OpCall && (len(got.Frames) != 3 || got.Frames[2].Class != impl.Selected(p, row[0], i.B) || !slices.Equal(got.Frames[2].Locals[:len(row)], m.Frames[1].Stack)) {
				t.Fatalf("%s of %v: Frames %v", c.text, row, got.Frames)
			}
		}
	}
}

// TestPromise8SteppedHowManyOnTheStack: just enough and one too few; just MaxStack behind it and one more.
func TestPromise8SteppedHowManyOnTheStack(t *testing.T) {
	for _, c := range slices.Concat(wordCases(), moveCases(), objectCases(), callCases()) {
		p := sceneProgram(t, c.step)
		m, after := scene(c.stack), scene(c.after)
		i := insnOf(t, c.step)
		top := &m.Frames[1]
		takes := len(stepTakes(t, i))
		whole := slices.Clone(top.Stack)
		for n := range takes {
			top.Stack = slices.Clone(whole[len(whole)-n:])
			checkStepped(t, fmt.Sprint(c.step, " with ", n), p, m, endedBy(m, impl.EnStuck))
		}
		top.Stack = slices.Clone(whole[len(whole)-takes:])
		if got := impl.Stepped(p, m); got.End != impl.EnRuns {
			t.Errorf("%s with just enough: End %d", c.step, got.End)
		}
		// Behind it as many as ever fit, then one more.
		more := len(after.Frames[1].Stack) - len(whole)
		if i.Op == impl.OpCall {
			more = 1 - takes
		}
		for n := takes; n <= impl.MaxStack; n++ {
			top.Stack = slices.Concat(slices.Repeat(values("1"), n-takes), whole[len(whole)-takes:])
			got := impl.Stepped(p, m)
			if n+more > impl.MaxStack {
				checkStepped(t, fmt.Sprint(c.step, " with ", n), p, m, endedBy(m, impl.EnStuck))
			} else if got.End != impl.EnRuns {
				t.Errorf("%s with %d: End %d", c.step, n, got.End)
			}
		}
	}
}

// stepTakes are the kinds that may stand at each place that i takes, in soundFamily.
func stepTakes(t *testing.T, i impl.Insn) [][]int64 {
	t.Helper()
	takes, is := followerOf(soundFamily(), 4, 4).takes(i)
	if !is {
		t.Fatalf("%v names what is not there", i)
	}
	return takes
}

// fullScene has as many objects, frames or words said as may be.
func fullScene(stack string, objects int, frames int, said int) impl.Machine {
	m := scene(stack)
	for len(m.Heap) < objects {
		m.Heap = append(m.Heap, impl.Object{Class: 5})
	}
	for len(m.Frames) < frames {
		m.Frames = slices.Insert(m.Frames, 0, twinFrame(m.Frames[0]))
	}
	for len(m.Said) < said {
		m.Said = append(m.Said, int64(len(m.Said)))
	}
	return m
}

func TestPromise8SteppedEnds(t *testing.T) {
	for _, c := range []struct {
		why, step, stack       string
		objects, frames, words int
		end                    int64
	}{
		{"by 0", "g", "7 0", 0, 0, 0, impl.EnZero},
		{"0 by 0", "g", "0 0", 0, 0, 0, impl.EnZero},
		{"the least by 0", "g", "-2147483648 0", 0, 0, 0, impl.EnZero},
		{"an object by 0", "g", "@0 0", 0, 0, 0, impl.EnStuck},
		{"null by 0", "g", "- 0", 0, 0, 0, impl.EnStuck},
		{"by null", "g", "7 -", 0, 0, 0, impl.EnStuck},
		{"0 alone", "g", "0", 0, 0, 0, impl.EnStuck},
		{"get of null", "o4,2", "-", 0, 0, 0, impl.EnNull},
		{"get of null, no such field", "o4,3", "-", 0, 0, 0, impl.EnStuck},
		{"get of null, no field of its own", "o1,0", "-", 0, 0, 0, impl.EnStuck},
		{"get of an object, no field of its own", "o5,0", "@5", 0, 0, 0, impl.EnStuck},
		{"get of a field above, by the class below", "o2,1", "@2", 0, 0, 0, impl.EnStuck},
		{"get of an object that lacks it", "o4,2", "@6", 0, 0, 0, impl.EnStuck},
		{"put into null", "p0,0", "- 5", 0, 0, 0, impl.EnNull},
		{"put of null into null", "p0,1", "- -", 0, 0, 0, impl.EnNull},
		{"put of the wrong kind into null", "p0,0", "- -", 0, 0, 0, impl.EnStuck},
		{"put of a number into null", "p0,1", "- 5", 0, 0, 0, impl.EnStuck},
		{"put of an object that is not there into null", "p0,1", "- @9", 0, 0, 0, impl.EnStuck},
		{"put into an object that lacks it", "p4,2", "@6 -", 0, 0, 0, impl.EnStuck},
		{"put, no such field", "p0,2", "- 5", 0, 0, 0, impl.EnStuck},
		{"call of null", "q0,0", "-", 0, 0, 0, impl.EnNull},
		{"call of null, no such name", "q0,1", "-", 0, 0, 0, impl.EnStuck},
		{"call of null, a name of the class below", "q0,7", "- -", 0, 0, 0, impl.EnStuck},
		{"call, a name of the object's class only", "q0,7", "@4 @4", 0, 0, 0, impl.EnStuck},
		{"call of null, the wrong kind", "q0,3", "- - -", 0, 0, 0, impl.EnStuck},
		{"call of null, the kinds changed round", "q0,3", "- @0 5", 0, 0, 0, impl.EnStuck},
		{"call of null, one too few", "q0,3", "- 5", 0, 0, 0, impl.EnStuck},
		{"call with one frame less", "q0,0", "@0", 0, 29, 0, impl.EnRuns},
		{"call with all frames", "q0,0", "@0", 0, 30, 0, impl.EnDeep},
		{"call of null with all frames", "q0,0", "-", 0, 30, 0, impl.EnNull},
		{"call of a number with all frames", "q0,0", "5", 0, 30, 0, impl.EnStuck},
		{"call of another class with all frames", "q0,0", "@1", 0, 30, 0, impl.EnStuck},
		{"call, no such name, with all frames", "q0,1", "@0", 0, 30, 0, impl.EnStuck},
		{"call, the wrong kind, with all frames", "q0,3", "@0 @0 @0", 0, 30, 0, impl.EnStuck},
		{"give with all frames", "t", "@3", 0, 30, 0, impl.EnRuns},
		{"new with one object less", "n4", "1", 49, 0, 0, impl.EnRuns},
		{"new with all objects", "n4", "1", 50, 0, 0, impl.EnFull},
		{"new with all objects and a full stack", "n4", "1 2 3 4 5 6 7 8", 50, 0, 0, impl.EnStuck},
		{"get with all objects", "o0,0", "@0", 50, 0, 0, impl.EnRuns},
		{"say with one less", "s", "5", 0, 0, 19999, impl.EnRuns},
		{"say with all said", "s", "5", 0, 0, 20000, impl.EnStuck},
		{"push with all said", "a5", "5", 0, 0, 20000, impl.EnRuns},
		{"nil of a number", "r", "0", 0, 0, 0, impl.EnStuck},
		{"nil of an object that is not there", "r", "@9", 0, 0, 0, impl.EnStuck},
		{"nil of an object whose class is not there", "r", "@7", 0, 0, 0, impl.EnStuck},
		{"nil of an object of class -1", "r", "@8", 0, 0, 0, impl.EnStuck},
		{"an object of class -1 is no number", "d", "1 @8", 0, 0, 0, impl.EnStuck},
		{"zero of null", "l0", "-", 0, 0, 0, impl.EnStuck},
		{"say of null", "s", "-", 0, 0, 0, impl.EnStuck},
		{"give of another class", "t", "@1", 0, 0, 0, impl.EnStuck},
		{"give of a number", "t", "3", 0, 0, 0, impl.EnStuck},
		{"give of what is not there", "t", "@9", 0, 0, 0, impl.EnStuck},
	} {
		m := fullScene(c.stack, c.objects, c.frames, c.words)
		p := sceneProgram(t, c.step)
		got := impl.Stepped(p, m)
		if got.End != c.end || !impl.MachineOk(got) {
			t.Errorf("%s: End %d, want %d", c.why, got.End, c.end)
		}
		if c.end != impl.EnRuns && !sameMachine(got, endedBy(m, c.end)) {
			t.Errorf("%s: more than End is changed: %v, of %v", c.why, got, m)
		}
	}
}

// TestPromise8SteppedWhatIsNotThere: classes, methods and Insns.
func TestPromise8SteppedWhatIsNotThere(t *testing.T) {
	for _, c := range []struct {
		step, stack string
		classes     int
	}{
		{"n5", "", 5}, {"o5,0", "@5", 6}, {"o5,0", "@4", 5}, {"o5,0", "-", 5}, {"p5,0", "@4 -", 5}, {"p5,0", "- -", 5}, {"q5,0", "@4", 5}, {"q5,0", "-", 5}, {"q5,0", "@5 -", 5},
	} {
		p := sceneProgram(t, c.step)
		p.Classes = p.Classes[:c.classes]
		// Class 0 has a field of class 5, class 4 gives one.
		if c.classes == 5 {
			p.Classes[0].Fields[1], p.Classes[4].Methods[3].Gives = 0, 0
		}
		m := scene(c.stack)
		checkStepped(t, fmt.Sprint(c.step, " of ", c.classes, " classes"), p, m, endedBy(m, impl.EnStuck))
	}
	p := sceneProgram(t, "a5")
	for _, n := range []int64{math.MinInt64, -2, -1, 4, 5, 39, 40, 1 << 32, math.MaxInt64} {
		m := scene("1")
		m.Frames[1].At = n
		checkStepped(t, fmt.Sprint("Insn ", n), p, m, endedBy(m, impl.EnStuck))
	}
	for _, n := range []int64{math.MinInt64, -2, -1, 6, 7, 1 << 32, math.MaxInt64} {
		m := scene("1")
		m.Frames[1].Class = n
		checkStepped(t, fmt.Sprint("class ", n), p, m, endedBy(m, impl.EnStuck))
	}
	// Class 4 has 3, 4, 7 and 8 of its own, 0 and 19 are above it only.
	for _, n := range []int64{math.MinInt64, -1, 0, 1, 2, 5, 6, 9, 19, 20, 1 << 32, math.MaxInt64} {
		m := scene("1")
		m.Frames[1].Name = n
		checkStepped(t, fmt.Sprint("name ", n), p, m, endedBy(m, impl.EnStuck))
	}
	// The Frames below are not looked at.
	m := scene("1")
	m.Frames[0].Class, m.Frames[0].Name, m.Frames[0].At = -7, 99, math.MaxInt64
	want := twinMachine(m)
	want.Frames[1].Stack, want.Frames[1].At = values("1 5"), 2
	checkStepped(t, "a frame below of nothing", p, m, want)
	// The last Insn is done, and the one behind it is not there.
	p = coded(t, 0, 0, "a1 i")
	start, _ := impl.Started(p)
	one := impl.Stepped(p, start)
	two := impl.Stepped(p, one)
	if two.End != impl.EnRuns || two.Frames[0].At != 2 {
		t.Errorf("behind the last Insn: %v", two)
	}
	checkStepped(t, "behind the last Insn", p, two, endedBy(two, impl.EnStuck))
}

// TestPromise8SteppedStays: what has ended stays, whatever is in it.
func TestPromise8SteppedStays(t *testing.T) {
	for end := int64(impl.EnGave); end <= impl.EnStuck; end++ {
		for _, step := range []string{"a5", "t", "n4", "g"} {
			m := endedBy(scene("@3"), end)
			checkStepped(t, fmt.Sprint("ended by ", end), sceneProgram(t, step), m, m)
			m.Frames, m.Heap = nil, nil
			checkStepped(t, fmt.Sprint("ended by ", end, ", empty"), sceneProgram(t, step), m, m)
		}
	}
}

func TestPromise8WhatIsNotRight(t *testing.T) {
	p := sceneProgram(t, "a5")
	for _, c := range limitChanges() {
		m := scene("1 2")
		c.change(&m)
		if got := impl.Stepped(p, m); isZeroMachine(got) == c.right {
			t.Errorf("%s: Stepped = %v", c.why, got)
		}
		if m.End = impl.EnNull; len(m.Frames) > 0 && isZeroMachine(impl.Stepped(p, m)) == c.right {
			t.Errorf("%s, ended: Stepped is wrong", c.why)
		}
	}
	for v, right := range valueCases() {
		m := scene("1 2")
		m.Heap[3].Fields[1] = v
		if got := impl.Stepped(p, m); isZeroMachine(got) == right {
			t.Errorf("%v: Stepped = %v", v, got)
		}
	}
	for _, end := range []int64{math.MinInt64, -1, 7, math.MaxInt64} {
		if got := impl.Stepped(p, endedBy(scene("1"), end)); !isZeroMachine(got) {
			t.Errorf("End %d: Stepped = %v", end, got)
		}
	}
	for why, wrong := range wrongFamilies(t) {
		for end := int64(impl.EnRuns); end <= impl.EnStuck; end++ {
			if got := impl.Stepped(wrong, endedBy(scene("1"), end)); !isZeroMachine(got) {
				t.Errorf("%s: Stepped = %v", why, got)
			}
		}
		if got, is := impl.Started(wrong); is || !isZeroMachine(got) {
			t.Errorf("%s: Started = %v, %v", why, got, is)
		}
		for _, n := range []int64{-1, 0, 1, 20000, 20001} {
			if got, cost := impl.Ran(wrong, n), impl.Cost(wrong, n); !isZeroMachine(got) || cost != -1 {
				t.Errorf("%s: Ran = %v, Cost = %d", why, got, cost)
			}
		}
	}
}

func TestPromise8Heard(t *testing.T) {
	said := []struct {
		words []int64
		text  string
	}{{nil, ""}, {[]int64{0}, "0"}, {[]int64{-5}, "-5"}, {[]int64{1, -2147483648, 0, 2147483647}, "1 -2147483648 0 2147483647"}}
	for _, s := range said {
		for end := int64(impl.EnRuns); end <= impl.EnStuck; end++ {
			for _, code := range []int64{0, 7, -2147483648} {
				want := s.text
				if end != impl.EnRuns {
					want += ";" + strconv.Itoa(int(end))
				}
				if end == impl.EnGave {
					want += "," + strconv.Itoa(int(code))
				}
				m := scene("1 @4 -")
				m.Said, m.End, m.Code = s.words, end, code
				if got := impl.Heard(m); got != want {
					t.Errorf("Heard of %v, %d, %d = %q, want %q", s.words, end, code, got, want)
				}
				if got := impl.Heard(impl.Machine{Said: s.words, End: end, Code: code}); got != want {
					t.Errorf("Heard of %v, %d, %d without frames = %q, want %q", s.words, end, code, got, want)
				}
			}
		}
	}
	if got := impl.Heard(impl.Machine{}); got != "" {
		t.Errorf("Heard of the zero Machine = %q", got)
	}
}

// A runCase is a whole run of class 0's method 0 of soundFamily.
type runCase struct {
	text, heard string
	cost        int64
}

func runCases() []runCase {
	return []runCase{
		{"a5 t", ";1,5", 2},
		{"a5 s a-6 s a0 t", "5 -6;1,0", 6},
		{"a3 c1 b1 s b1 a1 e h c1 l11 k2 b1 t", "3 2 1;1,0", 30},
		{"a1 a0 g t", ";2", 3},
		{"a1 s m o0,0 t", "1;3", 4},
		{"m a5 p0,0 a1 t", ";3", 3},
		{"m q0,0 t", ";3", 2},
		{"n4 i k0", ";4", 148},
		{"b0 q0,0 t", ";5", 60},
		{"a1 i", ";6", 3},
		{"i a1 t", ";6", 1},
		{"n4 q0,0 a7 d t", ";1,7", 7},
		{"b0 a9 p0,0 b0 o0,0 s b0 o0,1 r t", "9;1,1", 10},
		{"n2 c1 b1 b1 p2,0 b1 o2,0 r s b1 o0,1 r s a2 t", "0 1;1,2", 15},
		{"b0 a5 b0 q0,3 r t", ";1,1", 8},
		{"a2147483647 a1 d t", ";1,-2147483648", 4},
	}
}

func TestPromise8Runs(t *testing.T) {
	for _, c := range runCases() {
		p := coded(t, 0, 0, c.text)
		for _, n := range []int64{c.cost, c.cost + 1, 20000} {
			if heard, cost := impl.Heard(impl.Ran(p, n)), impl.Cost(p, n); heard != c.heard || cost != c.cost {
				t.Errorf("%s: heard %q, cost %d, want %q, %d", c.text, heard, cost, c.heard, c.cost)
			}
		}
		if m := impl.Ran(p, c.cost-1); m.End != impl.EnRuns || impl.Cost(p, c.cost-1) != c.cost-1 {
			t.Errorf("%s: one step less has ended: %v", c.text, m)
		}
	}
}

func TestPromise8HowManySteps(t *testing.T) {
	p := coded(t, 0, 0, "k0")
	start, _ := impl.Started(p)
	for n, fine := range map[int64]bool{0: true, 1: true, 2: true, 19999: true, 20000: true, -1: false, 20001: false, math.MinInt64: false, math.MaxInt64: false, 1 << 32: false} {
		got, cost := impl.Ran(p, n), impl.Cost(p, n)
		if fine && (!sameMachine(got, start) || cost != n) || !fine && (!isZeroMachine(got) || cost != -1) {
			t.Errorf("Ran(%d) = %v, Cost = %d", n, got, cost)
		}
	}
	// One step in three says.
	p = coded(t, 0, 0, "a7 h s k1")
	m := impl.Ran(p, 20000)
	if cost := impl.Cost(p, 20000); cost != 20000 || m.End != impl.EnRuns || len(m.Said) != 6666 || m.Said[6665] != 7 {
		t.Errorf("said %d, cost %d, End %d", len(m.Said), cost, m.End)
	}
	p = coded(t, 0, 0, "a5 t")
	if got, _ := impl.Started(p); !sameMachine(impl.Ran(p, 0), got) || impl.Cost(p, 0) != 0 {
		t.Errorf("Ran(0) = %v", impl.Ran(p, 0))
	}
	one := impl.Ran(p, 1)
	if one.End != impl.EnRuns || one.Frames[0].At != 1 || !slices.Equal(one.Frames[0].Stack, values("5")) || impl.Cost(p, 1) != 1 {
		t.Errorf("Ran(1) = %v", one)
	}
}
