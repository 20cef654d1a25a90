package tests

import (
	"math"
	"reflect"
	"slices"
	"testing"

	"loop.example/g00334/impl"
)

// methodNumbers are those of all methods of a program, rising.
func methodNumbers(p impl.Program) []int64 {
	var all []int64
	for _, at := range methodsOf(p) {
		all = append(all, at[0]*20+at[1])
	}
	return all
}

// onlyTold has the methods of these numbers alone.
func onlyTold(p impl.Program, stay numberSet) impl.Program {
	out := twin(p)
	for k := range out.Classes {
		c := &out.Classes[k]
		c.Methods = slices.DeleteFunc(c.Methods, func(m impl.Method) bool { return !stay[int64(k)*20+m.Name] })
	}
	return out
}

func withoutTold(p impl.Program, methods []int64) impl.Program {
	if wrongWith(p) != "" {
		return impl.Program{}
	}
	stay := numberSet{}
	for _, n := range methodNumbers(p) {
		stay[n] = !slices.Contains(methods, n)
	}
	if out := onlyTold(p, stay); wrongWith(out) == "" {
		return out
	}
	return impl.Program{}
}

// isKeep tells whether a list rises, of numbers below n.
func isKeep(list []int64, n int64) bool {
	return rises(list) && !slices.ContainsFunc(list, func(k int64) bool { return k < 0 || k >= n })
}

// namedIn are all classes that a class names, but in codes.
func namedIn(p impl.Program, class int64) []int64 {
	c := p.Classes[class]
	all := append([]int64{c.Super}, c.Fields...)
	for _, m := range c.Methods {
		all = append(append(all, m.Gives), m.Args...)
	}
	return slices.DeleteFunc(all, func(k int64) bool { return !isThere(p, k) })
}

// keptTogether goes round by round, until a round brings nothing that the one ahead did not.
func keptTogether(p impl.Program, keep []int64) numberSet {
	kept := numberSet{}
	for _, k := range keep {
		kept[k] = true
	}
	for {
		more := numberSet{}
		for k := range kept {
			more[k] = true
			for _, other := range namedIn(p, k) {
				more[other] = true
			}
		}
		if len(more) == len(kept) {
			return kept
		}
		kept = more
	}
}

// stayTold are the classes that stay, rising: the new number of each is its place.
func stayTold(p impl.Program, keep []int64) []int64 {
	_, _, needed := tellerOf(p).least()
	stay := keptTogether(p, keep)
	for k := range needed {
		stay[k] = true
	}
	return stay.rising()
}

func newNumbersTold(p impl.Program, keep []int64) []int64 {
	if wrongWith(p) != "" || !isKeep(keep, int64(len(p.Classes))) {
		return nil
	}
	return placesOf(p, stayTold(p, keep))
}

// placesOf has the place of each class among those that stay, -1 of others.
func placesOf(p impl.Program, stay []int64) []int64 {
	var numbers []int64
	for k := range int64(len(p.Classes)) {
		numbers = append(numbers, int64(slices.Index(stay, k)))
	}
	return numbers
}

// A shrink is what the chapter tells of one program, and what is kept of it.
type shrink struct {
	// less has the methods that stay, and all classes: also what goes is asked which classes stay.
	less    impl.Program
	live    numberSet
	numbers []int64
}

func shrinkOf(p impl.Program, classes []int64, names []int64) shrink {
	_, live, _ := tellerOf(p).least()
	stay := numberSet{}
	for _, n := range methodNumbers(p) {
		stay[n] = live[n] || slices.Contains(classes, n/20) && slices.Contains(names, n%20)
	}
	less := onlyTold(p, stay)
	return shrink{less, live, placesOf(p, stayTold(p, classes))}
}

func (s shrink) number(class int64) int64 {
	if isThere(s.less, class) {
		return s.numbers[class]
	}
	return class
}

func (s shrink) code(class int64, m impl.Method) []impl.Insn {
	if !s.live[class*20+m.Name] {
		if m.Gives == impl.TyInt {
			return codeOfInsns("a0 t")
		}
		return codeOfInsns("m t")
	}
	code := codeOfInsns("t" + steps(len(m.Code)-1, "t"))
	for _, at := range reachedTold(m.Code) {
		code[at] = m.Code[at]
		if slices.Contains([]int64{impl.OpNew, impl.OpGet, impl.OpPut, impl.OpCall}, code[at].Op) {
			code[at].A = s.number(code[at].A)
		}
	}
	return code
}

func (s shrink) program() impl.Program {
	var out impl.Program
	for k, c := range twin(s.less).Classes {
		class := int64(k)
		if s.numbers[class] < 0 {
			continue
		}
		c.Super = s.number(c.Super)
		for j := range c.Fields {
			c.Fields[j] = s.number(c.Fields[j])
		}
		for j := range c.Methods {
			m := &c.Methods[j]
			m.Code = s.code(class, *m)
			m.Gives = s.number(m.Gives)
			for a := range m.Args {
				m.Args[a] = s.number(m.Args[a])
			}
		}
		out.Classes = append(out.Classes, c)
	}
	return out
}

// machine is one of the program with the new numbers of its classes.
func (s shrink) machine(m impl.Machine) impl.Machine {
	m = twinMachine(m)
	for k := range m.Heap {
		m.Heap[k].Class = s.number(m.Heap[k].Class)
	}
	for k := range m.Frames {
		m.Frames[k].Class = s.number(m.Frames[k].Class)
	}
	return m
}

func checkWithout(t *testing.T, p impl.Program, methods []int64) {
	t.Helper()
	got, want := impl.Without(p, methods), withoutTold(p, methods)
	if !sameProgram(got, want) {
		t.Fatalf("Without(%v) = %v, want %v, of %v", methods, got, want, p)
	}
}

func checkNewNumbers(t *testing.T, p impl.Program, keep []int64) {
	t.Helper()
	if got, want := impl.NewNumbers(p, keep), newNumbersTold(p, keep); !slices.Equal(got, want) {
		t.Fatalf("NewNumbers(%v) = %v, want %v, of %s", keep, got, want, impl.ShowProgram(p))
	}
}

// checkShrunk holds Shrunk of a right program and right lists against the chapter told once more, and runs it beside the program.
func checkShrunk(t *testing.T, p impl.Program, classes []int64, names []int64) (impl.Program, shrink) {
	t.Helper()
	told, got := shrinkOf(p, classes, names), impl.Shrunk(p, classes, names)
	if want := told.program(); !sameProgram(got, want) {
		t.Fatalf("Shrunk(%v, %v) = %s, want %s, of %s", classes, names, impl.ShowProgram(got), impl.ShowProgram(want), impl.ShowProgram(p))
	}
	if why := wrongWith(got); why != "" || !impl.ProgramOk(got) {
		t.Fatalf("Shrunk(%v, %v): %s is wrong, of %s", classes, names, why, impl.ShowProgram(p))
	}
	if impl.Sound(p) && !impl.Sound(got) {
		t.Fatalf("Shrunk(%v, %v) = %s is not Sound, of %s", classes, names, impl.ShowProgram(got), impl.ShowProgram(p))
	}
	checkShrunkBulk(t, p, got, told)
	checkByNewNumbers(t, p, got, classes)
	checkShrunkAgain(t, got, told, classes, names)
	for _, n := range []int64{0, 1, 7, 60, 400} {
		a, b := impl.Ran(p, n), impl.Ran(got, n)
		if impl.Heard(a) != impl.Heard(b) || impl.Cost(p, n) != impl.Cost(got, n) {
			t.Fatalf("heard %q in %d, Shrunk %q in %d, of %s", impl.Heard(a), impl.Cost(p, n), impl.Heard(b), impl.Cost(got, n), impl.ShowProgram(p))
		}
		if !sameMachine(told.machine(a), b) {
			t.Fatalf("after %d steps %v, Shrunk %v, of %s", n, a, b, impl.ShowProgram(p))
		}
	}
	return got, told
}

// checkByNewNumbers asks NewNumbers itself which classes stay, and looks for what they name by these numbers.
func checkByNewNumbers(t *testing.T, p impl.Program, got impl.Program, classes []int64) {
	t.Helper()
	numbers, stay := impl.NewNumbers(p, classes), int64(0)
	number := func(class int64) int64 {
		if class < 0 {
			return class
		}
		return numbers[class]
	}
	for k, c := range p.Classes {
		if numbers[k] < 0 {
			continue
		}
		if numbers[k] != stay || stay >= int64(len(got.Classes)) {
			t.Fatalf("NewNumbers(%v) = %v, Shrunk %s, of %s", classes, numbers, impl.ShowProgram(got), impl.ShowProgram(p))
		}
		one := got.Classes[stay]
		stay++
		right := one.Super == number(c.Super) && len(one.Fields) == len(c.Fields) && len(one.Methods) <= len(c.Methods)
		for f := range c.Fields {
			right = right && one.Fields[f] == number(c.Fields[f])
		}
		for _, m := range one.Methods {
			from := slices.IndexFunc(c.Methods, func(other impl.Method) bool { return other.Name == m.Name })
			right = right && from >= 0 && m.Gives == number(c.Methods[from].Gives) && len(m.Args) == len(c.Methods[from].Args)
			for a := 0; right && a < len(m.Args); a++ {
				right = m.Args[a] == number(c.Methods[from].Args[a])
			}
		}
		if !right {
			t.Fatalf("Shrunk has %v for class %d, by NewNumbers(%v) = %v, of %s", one, k, classes, numbers, impl.ShowProgram(p))
		}
	}
	if needed := impl.Needed(p); len(classes) == 0 && len(got.Classes) != len(needed) {
		t.Fatalf("of no classes Shrunk has %d, Needed are %v, of %s", len(got.Classes), needed, impl.ShowProgram(p))
	}
	if stay != int64(len(got.Classes)) {
		t.Fatalf("%d classes have a number, %d are left: NewNumbers(%v) = %v, of %s", stay, len(got.Classes), classes, numbers, impl.ShowProgram(p))
	}
}

// checkShrunkAgain holds that nothing goes where all that was left is kept; where it is not, what only methods named that are gone by now goes, too.
func checkShrunkAgain(t *testing.T, got impl.Program, told shrink, classes []int64, names []int64) {
	t.Helper()
	if twice := impl.Shrunk(got, numbersBelow(int64(len(got.Classes))), names); !sameProgram(twice, got) {
		t.Fatalf("Shrunk again, all kept = %s, once %s", impl.ShowProgram(twice), impl.ShowProgram(got))
	}
	var again []int64
	for _, k := range classes {
		again = append(again, told.number(k))
	}
	if twice, want := impl.Shrunk(got, again, names), shrinkOf(got, again, names).program(); !sameProgram(twice, want) {
		t.Fatalf("Shrunk again = %s, want %s, once %s", impl.ShowProgram(twice), impl.ShowProgram(want), impl.ShowProgram(got))
	}
}

// checkShrunkBulk allows one step more only of a method that is kept, is not reached, and had a single one.
func checkShrunkBulk(t *testing.T, p impl.Program, got impl.Program, told shrink) {
	t.Helper()
	want, single := int64(0), int64(0)
	for n, m := range tellerOf(told.less).methods {
		if told.live[n] {
			want += int64(len(m.Code))
			continue
		}
		want += 2
		if len(m.Code) == 1 {
			single++
		}
	}
	if bulk := impl.Bulk(got); bulk != want || bulk > impl.Bulk(p)+single {
		t.Fatalf("Bulk = %d, want %d, was %d, of %s", bulk, want, impl.Bulk(p), impl.ShowProgram(p))
	}
}

// checkNotShrunk asks that NewNumbers and Shrunk give their one fixed answer where the classes are not as told.
func checkNotShrunk(t *testing.T, why string, p impl.Program, classes []int64) {
	t.Helper()
	if got := impl.NewNumbers(p, classes); len(got) != 0 {
		t.Errorf("%s: NewNumbers(%v) = %v", why, classes, got)
	}
	for _, names := range [][]int64{nil, {0}, {7}, numbersBelow(20)} {
		if got := impl.Shrunk(p, classes, names); len(got.Classes) != 0 {
			t.Errorf("%s: Shrunk(%v, %v) = %v", why, classes, names, got)
		}
	}
}

// chapel has methods of several names above and below each other, and a class without any.
func chapel() impl.Program {
	three, seven, last := does(3, "a3 t"), does(7, "a7 t"), does(19, "a9 t")
	return impl.Program{Classes: []impl.Class{
		{Super: -1, Fields: []int64{4, impl.TyInt}, Methods: []impl.Method{does(0, "b0 q0,3 t"), three, last}},
		{Super: 0, Fields: []int64{1}, Methods: []impl.Method{does(0, "a1 t"), does(3, "n2 q2,7 t"), seven, last}},
		below(1, seven),
		alone(does(1, "a1 t"), does(2, "a2 t"), three, does(4, "a4 t")),
		holding(3, impl.TyInt, 0),
	}}
}

func TestPromise16Without(t *testing.T) {
	const all = "0 3 19 20 23 27 39 47 61 62 63 64"
	p := chapel()
	if got := methodNumbers(p); !slices.Equal(got, numbersIn(all)) {
		t.Fatalf("methods %v", got)
	}
	for _, c := range []struct {
		why     string
		methods []int64
		// left are the methods that stay; empty is the zero Program.
		left string
	}{
		{"none", nil, all},
		{"an empty list", []int64{}, all},
		{"one in the middle of a class", []int64{23}, "0 3 19 20 27 39 47 61 62 63 64"},
		{"another one in the middle", []int64{63}, "0 3 19 20 23 27 39 47 61 62 64"},
		{"two in the middle", []int64{62, 63}, "0 3 19 20 23 27 39 47 61 64"},
		{"the first of a class", []int64{20}, "0 3 19 23 27 39 47 61 62 63 64"},
		{"the last of a class", []int64{39}, "0 3 19 20 23 27 47 61 62 63 64"},
		{"the last of class 0", []int64{19}, "0 3 20 23 27 39 47 61 62 63 64"},
		{"the only one of a class", []int64{47}, "0 3 19 20 23 27 39 61 62 63 64"},
		{"the last of all", []int64{64}, "0 3 19 20 23 27 39 47 61 62 63"},
		{"all of a class", []int64{20, 23, 27, 39}, "0 3 19 47 61 62 63 64"},
		{"all of the last class that has any", []int64{61, 62, 63, 64}, "0 3 19 20 23 27 39 47"},
		{"one above another of its name", []int64{3}, "0 19 20 23 27 39 47 61 62 63 64"},
		{"all of a name", []int64{3, 23, 63}, "0 19 20 27 39 47 61 62 64"},
		{"all but where it begins", numbersIn("3 19 20 23 27 39 47 61 62 63 64"), "0"},
		{"where it begins", []int64{0}, ""},
		{"where it begins, and another one", []int64{0, 3}, ""},
		{"where it begins, named last", []int64{64, 63, 0}, ""},
		{"all", numbersIn(all), ""},
		{"name 0 of another class", []int64{20}, "0 3 19 23 27 39 47 61 62 63 64"},
		{"a name that its class has not", []int64{7}, all},
		{"a name that only the class above has", []int64{43, 59}, all},
		{"names of a class without any", []int64{80, 81, 82, 83, 99}, all},
		{"there and not there", []int64{1, 2, 3, 4, 5}, "0 19 20 23 27 39 47 61 62 63 64"},
		{"past the last class", []int64{100, 103, 119, 120, 123, 400}, all},
		{"below 0", []int64{-1, -3, -17, -20, -19, -23}, all},
		{"very great and very small", []int64{math.MinInt64, math.MinInt64 + 3, math.MaxInt64, 1<<32 + 3, 1<<8 + 3, -1<<32 + 3, 1 << 63 / 20}, all},
		{"twice", []int64{23, 23}, "0 3 19 20 27 39 47 61 62 63 64"},
		{"three times, others between", []int64{23, 27, 23, 47, 23}, "0 3 19 20 39 61 62 63 64"},
		{"falling", []int64{63, 39, 23, 3}, "0 19 20 27 47 61 62 64"},
		{"falling and rising", []int64{39, 3, 63, 23}, "0 19 20 27 47 61 62 64"},
		{"with some that are not there between", []int64{-5, 39, 500, 3, -5, 63, 77, 23}, "0 19 20 27 47 61 62 64"},
		{"where it begins, below 0 and past the end ahead", []int64{-20, 120, 0}, ""},
	} {
		got := impl.Without(p, c.methods)
		if left := methodNumbers(got); !slices.Equal(left, numbersIn(c.left)) {
			t.Errorf("%s: Without(%v) leaves %v, want %s", c.why, c.methods, left, c.left)
		}
		if c.left == "" && len(got.Classes) != 0 {
			t.Errorf("%s: Without(%v) = %v", c.why, c.methods, got)
		}
		checkWithout(t, p, c.methods)
	}
	want := "-1 2 4 -1 2 0 0 -1 3 19 0 -1 2\nb0 q0,3 t\na9 t\n0 1 1 2 0 0 -1 2 7 0 -1 2\na1 t\na7 t\n1 0 1 7 0 -1 2\na7 t\n-1 0 3 1 0 -1 2 2 0 -1 2 4 0 -1 2\na1 t\na2 t\na4 t\n3 2 -1 0 0\n"
	if got := impl.ShowProgram(impl.Without(p, []int64{63, 39, 23, 3})); got != want {
		t.Errorf("Without is shown as %q, want %q", got, want)
	}
}

// A long list, of numbers that are there and that are not, is one like others.
func TestPromise16WithoutMany(t *testing.T) {
	var many []int64
	for n := int64(-5000); n < 5000; n++ {
		if n != 0 {
			many = append(many, n, -n)
		}
	}
	p := chapel()
	if got := methodNumbers(impl.Without(p, many)); !slices.Equal(got, []int64{0}) {
		t.Errorf("left are %v", got)
	}
	if got := impl.Without(p, append(many, 0)); len(got.Classes) != 0 {
		t.Errorf("Without all = %v", got)
	}
}

// Every choice of the methods of a program is left out once.
func TestPromise16WithoutEveryChoice(t *testing.T) {
	for _, p := range []impl.Program{chapel(), soundFamily()} {
		numbers := methodNumbers(p)
		for choice := range 1 << len(numbers) {
			var methods []int64
			for k, n := range numbers {
				if choice>>k&1 == 1 {
					methods = append(methods, n)
				}
			}
			checkWithout(t, p, methods)
		}
	}
}

// A numbersCase is what NewNumbers answers, by the classes that it is to keep.
type numbersCase struct {
	why     string
	classes []impl.Class
	want    map[string]string
}

func checkNumbersCases(t *testing.T, cases []numbersCase) {
	t.Helper()
	for _, c := range cases {
		p := impl.Program{Classes: c.classes}
		if why := wrongWith(p); why != "" {
			t.Fatalf("%s: %s is wrong", c.why, why)
		}
		for keep, want := range c.want {
			if got := impl.NewNumbers(p, numbersIn(keep)); !slices.Equal(got, numbersIn(want)) {
				t.Errorf("%s: NewNumbers(%s) = %v, want %s", c.why, keep, got, want)
			}
		}
		checkEveryKeep(t, p)
	}
}

// choicesOf are all lists that rise, of numbers below n.
func choicesOf(n int) [][]int64 {
	var all [][]int64
	for choice := range 1 << n {
		var list []int64
		for k := range n {
			if choice>>k&1 == 1 {
				list = append(list, int64(k))
			}
		}
		all = append(all, list)
	}
	return all
}

func checkEveryKeep(t *testing.T, p impl.Program) {
	t.Helper()
	for _, keep := range choicesOf(len(p.Classes)) {
		checkNewNumbers(t, p, keep)
	}
}

func TestPromise16NewNumbers(t *testing.T) {
	checkNumbersCases(t, []numbersCase{
		{"the least program", []impl.Class{opening("a0 t")}, map[string]string{"": "0", "0": "0"}},
		{"class 0 alone stays", []impl.Class{opening("a0 t"), alone(), alone(), alone(), alone(), alone()}, map[string]string{
			"": "0 -1 -1 -1 -1 -1", "0": "0 -1 -1 -1 -1 -1", "1": "0 1 -1 -1 -1 -1", "5": "0 -1 -1 -1 -1 1", "3": "0 -1 -1 1 -1 -1",
			"0 2 4": "0 -1 1 -1 2 -1", "1 3 5": "0 1 -1 2 -1 3", "0 1 2 3 4 5": "0 1 2 3 4 5", "1 2 3 4 5": "0 1 2 3 4 5", "2 3 4 5": "0 -1 1 2 3 4",
		}},
		{"all stay", []impl.Class{opening("n1 i n2 i n3 i n4 i n5 i a0 t"), alone(), alone(), alone(), alone(), alone()}, map[string]string{
			"": "0 1 2 3 4 5", "0": "0 1 2 3 4 5", "3": "0 1 2 3 4 5", "0 1 2 3 4 5": "0 1 2 3 4 5",
		}},
		{"one in the middle goes", []impl.Class{opening("n1 i n3 i a0 t"), alone(), alone(), alone()}, map[string]string{
			"": "0 1 -1 2", "1": "0 1 -1 2", "2": "0 1 2 3", "1 3": "0 1 -1 2",
		}},
		{"two in a row go", []impl.Class{opening("n4 i a0 t"), alone(), alone(), alone(), alone()}, map[string]string{
			"": "0 -1 -1 -1 1", "2": "0 -1 1 -1 2", "3": "0 -1 -1 1 2",
		}},
		{"a keep brings all above it", []impl.Class{opening("a0 t"), alone(), below(1), alone(), below(2), below(4)}, map[string]string{
			"": "0 -1 -1 -1 -1 -1", "1": "0 1 -1 -1 -1 -1", "2": "0 1 2 -1 -1 -1", "3": "0 -1 -1 1 -1 -1", "4": "0 1 2 -1 3 -1", "5": "0 1 2 -1 3 4",
		}},
		{"a keep brings none below it", []impl.Class{opening("a0 t"), alone(), below(1), below(1), below(0)}, map[string]string{
			"1": "0 1 -1 -1 -1", "0": "0 -1 -1 -1 -1", "3": "0 1 -1 2 -1", "4": "0 -1 -1 -1 1",
		}},
		{"a keep brings the types of its fields", []impl.Class{opening("a0 t"), holding(-1, 4, impl.TyInt, 2, 2), alone(), alone(), alone()}, map[string]string{
			"": "0 -1 -1 -1 -1", "1": "0 1 2 -1 3", "2": "0 -1 1 -1 -1", "4": "0 -1 -1 -1 1",
		}},
		{"the last of four fields", []impl.Class{opening("a0 t"), holding(-1, impl.TyInt, impl.TyInt, 0, 3), alone(), alone()}, map[string]string{"1": "0 1 -1 2"}},
		{"a keep brings its methods' Args", []impl.Class{opening("a0 t"), alone(asks(7, "a0 t", impl.TyInt, 5, 3, 4)), alone(), alone(), alone(), alone()}, map[string]string{
			"": "0 -1 -1 -1 -1 -1", "1": "0 1 -1 2 3 4",
		}},
		{"a keep brings what its methods give", []impl.Class{opening("a0 t"), alone(does(2, "a0 t"), asks(3, "m t", 3)), alone(), alone()}, map[string]string{
			"": "0 -1 -1 -1", "1": "0 1 -1 2",
		}},
		{"the last of four methods", []impl.Class{opening("a0 t"), alone(does(2, "a0 t"), does(3, "a0 t"), does(4, "a0 t"), asks(19, "m t", 2, impl.TyInt, 0, 4)), alone(), alone(), alone()}, map[string]string{
			"1": "0 1 2 -1 3",
		}},
		{"a keep brings nothing by its codes", []impl.Class{opening("a0 t"), alone(does(2, "n2 o3,0 q4,2 m a0 p5,0 a0 t")), alone(), holding(-1, impl.TyInt), alone(does(2, "a0 t")), holding(-1, impl.TyInt)}, map[string]string{
			"1": "0 1 -1 -1 -1 -1",
		}},
		{"what is brought brings others: field, Super, Args, Gives", []impl.Class{opening("a0 t"), alone(asks(3, "m t", 0)), below(1, asks(7, "m t", impl.TyInt, 5)), holding(-1, 2), alone(), alone(asks(8, "m t", 4))}, map[string]string{
			"3": "0 1 2 3 4 5", "2": "0 1 2 -1 3 4", "5": "0 -1 -1 -1 1 2", "4": "0 -1 -1 -1 1 -1", "1": "0 1 -1 -1 -1 -1",
		}},
		{"what is above brings others", []impl.Class{opening("a0 t"), holding(-1, 4), below(1), alone(asks(7, "m t", 3)), alone(asks(2, "a0 t", impl.TyInt, 3))}, map[string]string{
			"2": "0 1 2 3 4", "1": "0 1 -1 2 3", "4": "0 -1 -1 1 2", "3": "0 -1 -1 1 -1",
		}},
		{"one field to the next", []impl.Class{opening("a0 t"), holding(-1, 2), holding(-1, 3), holding(-1, 4), holding(-1, 5), alone()}, map[string]string{
			"1": "0 1 2 3 4 5", "3": "0 -1 -1 1 2 3", "5": "0 -1 -1 -1 -1 1",
		}},
		{"round and round", []impl.Class{opening("a0 t"), holding(-1, 2, 1), alone(asks(3, "m t", 1, 2)), alone()}, map[string]string{
			"1": "0 1 2 -1", "2": "0 1 2 -1", "3": "0 -1 -1 1",
		}},
		{"two that bring the same", []impl.Class{opening("a0 t"), holding(-1, 3), holding(-1, 3), alone()}, map[string]string{
			"1 2": "0 1 2 3", "1": "0 1 -1 2", "2": "0 -1 1 2",
		}},
		{"class 0 is kept with all that it names", []impl.Class{{Super: -1, Fields: []int64{2}, Methods: []impl.Method{does(0, "a0 t"), asks(7, "m t", 4)}}, alone(), alone(), alone(), alone()}, map[string]string{
			"": "0 -1 1 -1 -1", "0": "0 -1 1 -1 2",
		}},
		{"Needed alone brings no Args and Gives of what is not reached", []impl.Class{opening("n1 i a0 t"), alone(asks(7, "m t", 3, 2)), alone(), alone()}, map[string]string{
			"": "0 1 -1 -1", "1": "0 1 2 3", "0": "0 1 -1 -1", "2": "0 1 2 -1",
		}},
		{"a keep brings what is Needed, with its Args and Gives", []impl.Class{opening("n1 i a0 t"), alone(asks(7, "m t", 3, 2)), alone(), alone(), holding(-1, 1), alone()}, map[string]string{
			"": "0 1 -1 -1 -1 -1", "4": "0 1 2 3 4 -1", "5": "0 1 -1 -1 -1 2",
		}},
		{"a keep that is Needed as a field of another", []impl.Class{opening("n2 i a0 t"), alone(asks(7, "m t", 3)), holding(-1, 1), alone()}, map[string]string{
			"": "0 1 2 -1", "1": "0 1 2 3", "2": "0 1 2 3",
		}},
		{"Args and Gives of what is reached", []impl.Class{opening("m m m q2,7 i a0 t"), alone(), alone(asks(7, "m t", 5, 3, impl.TyInt)), alone(), alone(), alone()}, map[string]string{
			"": "0 -1 1 2 -1 3", "4": "0 -1 1 2 3 4",
		}},
		{"all above what is made", []impl.Class{opening("n4 i a0 t"), alone(), alone(), below(1), below(3), below(4)}, map[string]string{
			"": "0 1 -1 2 3 -1", "2": "0 1 2 3 4 -1", "5": "0 1 -1 2 3 4",
		}},
	})
}

// wrongKeeps are lists that are not as told, of numbers below n.
func wrongKeeps(n int64) map[string][]int64 {
	return map[string][]int64{
		"one past the last":             {n},
		"one past the last, at its end": append(numbersBelow(n), n),
		"below 0":                       {-1},
		"below 0, ahead of one":         {-1, 0},
		"TyNull":                        {-2},
		"the least number":              {math.MinInt64},
		"the greatest number":           {math.MaxInt64},
		"a number gone round":           {1 << 32},
		"a number gone round below 0":   {-1 << 32},
		"a number of one byte":          {256},
		"two alike":                     {0, 0},
		"two alike at the end":          append(numbersBelow(n), n-1),
		"two alike at the beginning":    append([]int64{0}, numbersBelow(n)...),
		"the last one twice":            {n - 1, n - 1},
		"two alike, another between":    {0, n - 1, 0},
		"falling":                       {n - 1, 0},
		"falling at the end":            append(numbersBelow(n), 0),
		"all of them, the last first":   append([]int64{n - 1}, numbersBelow(n-1)...),
		"very many alike":               make([]int64, 100000),
	}
}

func TestPromise16WrongKeep(t *testing.T) {
	for _, p := range []impl.Program{chapel(), soundFamily(), family(), row(), {Classes: []impl.Class{opening("n1 i a0 t"), alone()}}} {
		n := int64(len(p.Classes))
		for why, keep := range wrongKeeps(n) {
			if isKeep(keep, n) {
				t.Fatalf("%s: %v is as told", why, keep)
			}
			checkNotShrunk(t, why, p, keep)
		}
		for why, names := range wrongKeeps(20) {
			for _, classes := range [][]int64{nil, {0}, {1}, numbersBelow(n)} {
				if got := impl.Shrunk(p, classes, names); len(got.Classes) != 0 {
					t.Errorf("%s: Shrunk(%v, %v) = %v", why, classes, names, got)
				}
			}
		}
		for _, wrong := range [][]int64{{0, 0}, {20}, {-1}} {
			if got := impl.Shrunk(p, wrong, wrong); len(got.Classes) != 0 {
				t.Errorf("Shrunk(%v, %v) = %v", wrong, wrong, got)
			}
		}
	}
}

// Of a program of fewer classes, fewer may be kept; of names always 20.
func TestPromise16KeepAtTheLimits(t *testing.T) {
	for n := 1; n <= 6; n++ {
		p := impl.Program{Classes: append([]impl.Class{opening("a0 t")}, make([]impl.Class, n-1)...)}
		for k := 1; k < n; k++ {
			p.Classes[k] = alone(does(0, "a0 t"), does(19, "a5 t"))
		}
		for class := int64(-2); class < 8; class++ {
			fine := class >= 0 && class < int64(n)
			if got := impl.NewNumbers(p, []int64{class}); len(got) != map[bool]int{true: n}[fine] {
				t.Errorf("%d classes: NewNumbers([%d]) = %v", n, class, got)
			}
			for name := int64(-2); name < 23; name++ {
				got := impl.Shrunk(p, []int64{class}, []int64{name})
				if (len(got.Classes) > 0) != (fine && name >= 0 && name < 20) {
					t.Errorf("%d classes: Shrunk([%d], [%d]) = %v", n, class, name, got)
				}
			}
		}
		if got := impl.NewNumbers(p, numbersBelow(int64(n))); !slices.Equal(got, numbersBelow(int64(n))) {
			t.Errorf("%d classes, all kept: NewNumbers = %v", n, got)
		}
		if got := impl.Shrunk(p, numbersBelow(int64(n)), numbersBelow(20)); len(methodNumbers(got)) != 2*n-1 {
			t.Errorf("%d classes, all kept: Shrunk = %v", n, got)
		}
	}
}

func TestPromise16WrongPrograms(t *testing.T) {
	wrong := wrongFamilies(t)
	for why, change := range map[string]func(p *impl.Program){
		"no classes":                            func(p *impl.Program) { p.Classes = nil },
		"seven classes":                         func(p *impl.Program) { p.Classes = append(p.Classes, alone(), alone()) },
		"no beginning":                          func(p *impl.Program) { p.Classes[0].Methods = p.Classes[0].Methods[1:] },
		"a beginning that takes something":      func(p *impl.Program) { p.Classes[0].Methods[0].Args = []int64{impl.TyInt} },
		"a class that goes, above itself":       func(p *impl.Program) { p.Classes[4].Super = 4 },
		"a class that goes, its field":          func(p *impl.Program) { p.Classes[4].Fields[0] = 5 },
		"a method that goes, its code":          func(p *impl.Program) { p.Classes[3].Methods[0].Code = nil },
		"a method that goes, its step":          func(p *impl.Program) { p.Classes[3].Methods[0].Code[0].B = 1 },
		"a method that goes, its name":          func(p *impl.Program) { p.Classes[3].Methods[3].Name = 20 },
		"a method that goes, its name twice":    func(p *impl.Program) { p.Classes[3].Methods[3].Name = 3 },
		"a method that goes, what it gives":     func(p *impl.Program) { p.Classes[3].Methods[0].Gives = 5 },
		"a method that goes, what it takes":     func(p *impl.Program) { p.Classes[3].Methods[0].Args = []int64{impl.TyNull} },
		"a method that goes, unlike that above": func(p *impl.Program) { p.Classes[1].Methods[3].Args = []int64{impl.TyInt} },
	} {
		p := chapel()
		change(&p)
		wrong[why] = p
	}
	for why, p := range wrong {
		if wrongWith(p) == "" {
			t.Fatalf("%s: the test itself finds nothing wrong", why)
		}
		for _, classes := range [][]int64{nil, {0}, {1}, {4}, {0, 1, 2, 3, 4}, {6}, {1, 0}} {
			checkNotShrunk(t, why, p, classes)
		}
		for _, methods := range [][]int64{nil, {0}, {19}, {39}, {61}, {61, 62, 63, 64}, {83, 84, 87, 88, 100}, numbersBelow(140)} {
			if got := impl.Without(p, methods); len(got.Classes) != 0 {
				t.Errorf("%s: Without(%v) = %v", why, methods, got)
			}
		}
	}
}

// A wrong program is not made right by leaving out what is wrong in it.
func TestPromise16WithoutWhatIsWrong(t *testing.T) {
	for why, change := range map[string]func(m *impl.Method){
		"its code":  func(m *impl.Method) { m.Code = nil },
		"its step":  func(m *impl.Method) { m.Code[1].B = 20 },
		"its Gives": func(m *impl.Method) { m.Gives = impl.TyNull },
		"its Args":  func(m *impl.Method) { m.Args = []int64{5} },
		"its form":  func(m *impl.Method) { m.Args = []int64{0} },
	} {
		p := chapel()
		change(&p.Classes[1].Methods[1])
		if wrongWith(p) == "" || wrongWith(onlyTold(p, numberSet{0: true})) != "" {
			t.Fatalf("%s: the test itself is wrong", why)
		}
		if got := impl.Without(p, []int64{23}); len(got.Classes) != 0 {
			t.Errorf("%s: Without = %v", why, got)
		}
	}
}

// A shrinkCase is what Shrunk is shown as, of the classes and names that are kept.
type shrinkCase struct {
	why            string
	classes        []impl.Class
	keep, keepName string
	want           string
}

func checkShrinkCases(t *testing.T, cases []shrinkCase) {
	t.Helper()
	for _, c := range cases {
		p := impl.Program{Classes: c.classes}
		if why := wrongWith(p); why != "" {
			t.Fatalf("%s: %s is wrong", c.why, why)
		}
		if got := impl.ShowProgram(impl.Shrunk(p, numbersIn(c.keep), numbersIn(c.keepName))); got != c.want {
			t.Errorf("%s: Shrunk is shown as %q, want %q", c.why, got, c.want)
		}
		checkEveryShrunk(t, p)
	}
}

// checkEveryShrunk keeps all choices of classes, and some of names.
func checkEveryShrunk(t *testing.T, p impl.Program) {
	t.Helper()
	for _, classes := range choicesOf(len(p.Classes)) {
		for _, names := range [][]int64{nil, {0}, {7}, {0, 1, 3, 19}, numbersBelow(20)} {
			checkShrunk(t, p, classes, names)
		}
	}
}

func TestPromise16ShrunkClasses(t *testing.T) {
	checkShrinkCases(t, []shrinkCase{
		{"the least program", []impl.Class{opening("a0 t")}, "", "", "-1 0 1 0 0 -1 2\na0 t\n"},
		{"the least program, kept", []impl.Class{opening("a0 t")}, "0", "0", "-1 0 1 0 0 -1 2\na0 t\n"},
		{"another class", []impl.Class{opening("a0 t"), alone(does(7, "a7 t"))}, "", "", "-1 0 1 0 0 -1 2\na0 t\n"},
		{"another class, another name kept", []impl.Class{opening("a0 t"), alone(does(7, "a7 t"))}, "", "7", "-1 0 1 0 0 -1 2\na0 t\n"},
		{"another class that is kept, without names", []impl.Class{opening("a0 t"), alone(does(7, "a7 t"))}, "1", "", "-1 0 1 0 0 -1 2\na0 t\n-1 0 0\n"},
		{"another class that is kept, with another name", []impl.Class{opening("a0 t"), alone(does(7, "a7 t"))}, "1", "8", "-1 0 1 0 0 -1 2\na0 t\n-1 0 0\n"},
		{"one in the middle", []impl.Class{opening("n2 i a0 t"), alone(), alone()}, "", "", "-1 0 1 0 0 -1 4\nn1 i a0 t\n-1 0 0\n"},
		{"one in the middle, kept", []impl.Class{opening("n2 i a0 t"), alone(), alone()}, "1", "", "-1 0 1 0 0 -1 4\nn2 i a0 t\n-1 0 0\n-1 0 0\n"},
		{"the last one", []impl.Class{opening("n1 i a0 t"), alone(), alone()}, "", "", "-1 0 1 0 0 -1 4\nn1 i a0 t\n-1 0 0\n"},
		{"all stay", []impl.Class{opening("n2 i n1 i a0 t"), alone(), alone()}, "", "", "-1 0 1 0 0 -1 6\nn2 i n1 i a0 t\n-1 0 0\n-1 0 0\n"},
		{"all but class 0", []impl.Class{opening("a0 t"), alone(), alone(), alone(), alone(), alone()}, "0", "0", "-1 0 1 0 0 -1 2\na0 t\n"},
		{"each other one", []impl.Class{opening("n5 i n3 i n1 i a0 t"), alone(), alone(), alone(), alone(), alone()}, "", "", "-1 0 1 0 0 -1 8\nn3 i n2 i n1 i a0 t\n-1 0 0\n-1 0 0\n-1 0 0\n"},
		{"Super", []impl.Class{opening("n4 i a0 t"), alone(), below(0), alone(), below(2)}, "", "", "-1 0 1 0 0 -1 4\nn2 i a0 t\n0 0 0\n1 0 0\n"},
		{"Super of one that is kept", []impl.Class{opening("a0 t"), alone(), alone(), below(2)}, "3", "", "-1 0 1 0 0 -1 2\na0 t\n-1 0 0\n1 0 0\n"},
		{"Fields", []impl.Class{opening("n3 i a0 t"), alone(), alone(), holding(-1, 5, impl.TyInt, 0, 3), alone(), alone()}, "", "", "-1 0 1 0 0 -1 4\nn1 i a0 t\n-1 4 2 -1 0 1 0\n-1 0 0\n"},
		{"class 0's Fields", []impl.Class{{Super: -1, Fields: []int64{3, impl.TyInt}, Methods: []impl.Method{does(0, "a0 t")}}, alone(), alone(), alone()}, "", "", "-1 2 1 -1 1 0 0 -1 2\na0 t\n-1 0 0\n"},
		{"Fields of one that is kept", []impl.Class{opening("a0 t"), alone(), holding(-1, 3), holding(-1, 2)}, "2", "", "-1 0 1 0 0 -1 2\na0 t\n-1 1 2 0\n-1 1 1 0\n"},
		{"Args and Gives", []impl.Class{opening("m m a1 m q2,7 i a0 t"), alone(), alone(asks(7, "m t", 5, 3, impl.TyInt, 5)), alone(), alone(), alone()}, "", "", "-1 0 1 0 0 -1 8\nm m a1 m q1,7 i a0 t\n-1 0 1 7 3 2 -1 3 3 2\nm t\n-1 0 0\n-1 0 0\n"},
	})
}

// Only what names a class has new numbers, be other numbers as great as they may.
func TestPromise16ShrunkSteps(t *testing.T) {
	five := func(text string) []impl.Class {
		return []impl.Class{opening(text), alone(), alone(), {Super: -1, Fields: []int64{impl.TyInt, impl.TyInt, impl.TyInt, impl.TyInt}, Methods: []impl.Method{does(3, "a0 t")}}, alone()}
	}
	three := "\n-1 4 -1 -1 -1 -1 0\n"
	checkShrinkCases(t, []shrinkCase{
		{"OpNew", five("n3 i a0 t"), "", "", "-1 0 1 0 0 -1 4\nn1 i a0 t" + three},
		{"OpGet", five("n3 o3,3 i a0 t"), "", "", "-1 0 1 0 0 -1 5\nn1 o1,3 i a0 t" + three},
		{"OpGet alone", five("m o3,2 t"), "", "", "-1 0 1 0 0 -1 3\nm o1,2 t" + three},
		{"OpPut", five("n3 a3 p3,3 a0 t"), "", "", "-1 0 1 0 0 -1 5\nn1 a3 p1,3 a0 t" + three},
		{"OpPut alone", five("m a3 p3,1 a0 t"), "", "", "-1 0 1 0 0 -1 5\nm a3 p1,1 a0 t" + three},
		{"OpCall", five("n3 q3,3 t"), "", "", "-1 0 1 0 0 -1 3\nn1 q1,3 t\n-1 4 -1 -1 -1 -1 1 3 0 -1 2\na0 t\n"},
		{"OpCall alone", five("m q3,3 t"), "", "", "-1 0 1 0 0 -1 3\nm q1,3 t\n-1 4 -1 -1 -1 -1 1 3 0 -1 2\na0 t\n"},
		{"OpCall of a name that is not there", five("m q3,4 t"), "", "", "-1 0 1 0 0 -1 3\nm q1,4 t" + three},
		{"OpGet of a class without fields", five("m o4,3 t"), "", "", "-1 0 1 0 0 -1 3\nm o1,3 t\n-1 0 0\n"},
		{"OpPush, OpLoad and OpStore", five("n3 i a3 b3 c3 a4 c4 b4 t"), "", "", "-1 0 1 0 0 -1 9\nn1 i a3 b3 c3 a4 c4 b4 t" + three},
		{"OpJump and OpZero", five("n3 k3 a3 i a0 l4 a3 t"), "", "", "-1 0 1 0 0 -1 8\nn1 k3 t i a0 l4 a3 t" + three},
		{"class 0", five("n0 q0,0 n3 i t"), "", "", "-1 0 1 0 0 -1 5\nn0 q0,0 n1 i t" + three},
		{"in a method of another class", []impl.Class{opening("n2 q2,7 t"), alone(), alone(does(7, "n4 q4,7 t")), alone(), alone(does(7, "n2 i n4 i a2 t"))}, "", "",
			"-1 0 1 0 0 -1 3\nn1 q1,7 t\n-1 0 1 7 0 -1 3\nn2 q2,7 t\n-1 0 1 7 0 -1 6\nn1 i n2 i a2 t\n"},
		{"a class that is not there", []impl.Class{opening("n4 n3 o4,1 m a1 p3,1 q5,5 t"), alone(), alone()}, "", "", "-1 0 1 0 0 -1 8\nn4 n3 o4,1 m a1 p3,1 q5,5 t\n"},
		{"a class that is not there, some of a lesser number go", []impl.Class{opening("n2 n3 n5 n2 t"), alone(), alone()}, "", "", "-1 0 1 0 0 -1 5\nn1 n3 n5 n1 t\n-1 0 0\n"},
	})
}

func TestPromise16ShrunkStepsThatAreNotReached(t *testing.T) {
	long := "k39" + steps(38, "n1") + " n1"
	checkShrinkCases(t, []shrinkCase{
		{"behind OpGive", []impl.Class{opening("a7 s a3 t n1 i"), alone()}, "", "", "-1 0 1 0 0 -1 6\na7 s a3 t t t\n"},
		{"behind OpGive, the class is made", []impl.Class{opening("n1 i a3 t n1 i"), alone()}, "", "", "-1 0 1 0 0 -1 6\nn1 i a3 t t t\n-1 0 0\n"},
		{"behind OpGive, the class is kept", []impl.Class{opening("a3 t n1 i"), alone()}, "1", "", "-1 0 1 0 0 -1 4\na3 t t t\n-1 0 0\n"},
		{"jumped over", []impl.Class{opening("k4 n1 i a3 a5 t"), alone()}, "", "", "-1 0 1 0 0 -1 6\nk4 t t t a5 t\n"},
		{"in front of what is jumped back to", []impl.Class{opening("k3 a3 t n2 i k1 m"), alone(), alone()}, "", "", "-1 0 1 0 0 -1 7\nk3 a3 t n1 i k1 t\n-1 0 0\n"},
		{"going round by itself", []impl.Class{opening("a3 t n1 i k2"), alone()}, "", "", "-1 0 1 0 0 -1 5\na3 t t t t\n"},
		{"of all Ops", []impl.Class{opening("a5 t a5 b1 c1 d e f g h i j k0 l0 m n1 o1,1 p1,1 q1,1 r s t"), alone()}, "", "", "-1 0 1 0 0 -1 22\na5 t" + steps(20, "t") + "\n"},
		{"of OpGive", []impl.Class{opening("a5 t t a5 t"), alone()}, "", "", "-1 0 1 0 0 -1 5\na5 t t t t\n"},
		{"none where OpZero goes both ways", []impl.Class{opening("a1 l4 a3 t n1 i a4 t"), alone()}, "", "", "-1 0 1 0 0 -1 8\na1 l4 a3 t n1 i a4 t\n-1 0 0\n"},
		{"none of a round", []impl.Class{opening("n1 i k0"), alone()}, "", "", "-1 0 1 0 0 -1 3\nn1 i k0\n-1 0 0\n"},
		{"a jump to itself", []impl.Class{opening("k0 a3 t"), alone()}, "", "", "-1 0 1 0 0 -1 3\nk0 t t\n"},
		{"the longest code, all but two", []impl.Class{opening(long), alone()}, "", "", "-1 0 1 0 0 -1 40\nk39" + steps(38, "t") + " n1\n-1 0 0\n"},
		{"in a method that is called", []impl.Class{opening("n2 q2,7 t"), alone(), alone(does(7, "k2 n1 a0 t n1"))}, "", "", "-1 0 1 0 0 -1 3\nn1 q1,7 t\n-1 0 1 7 0 -1 5\nk2 t a0 t t\n"},
		{"what is called in them alone", []impl.Class{opening("a0 t n1 q1,7", does(7, "a1 t")), alone(does(7, "a7 t"))}, "", "", "-1 0 1 0 0 -1 4\na0 t t t\n"},
	})
}

func TestPromise16ShrunkMethods(t *testing.T) {
	seven, eight := does(7, "a7 s a7 t"), does(8, "a8 s a8 t")
	two := func() impl.Class { return alone(seven, eight) }
	checkShrinkCases(t, []shrinkCase{
		{"one of class 0 that is not reached", []impl.Class{opening("a0 t", seven)}, "", "", "-1 0 1 0 0 -1 2\na0 t\n"},
		{"one of class 0 that is reached", []impl.Class{opening("b0 q0,7 t", seven, eight)}, "", "", "-1 0 2 0 0 -1 3 7 0 -1 4\nb0 q0,7 t\na7 s a7 t\n"},
		{"one in the middle that is reached", []impl.Class{opening("b0 q0,7 t", does(3, "a3 t"), seven, eight)}, "", "", "-1 0 2 0 0 -1 3 7 0 -1 4\nb0 q0,7 t\na7 s a7 t\n"},
		{"one of class 0 that is kept", []impl.Class{opening("a0 t", seven, eight)}, "0", "7", "-1 0 2 0 0 -1 2 7 0 -1 2\na0 t\na0 t\n"},
		{"class 0 is kept, its name is not", []impl.Class{opening("a0 t", seven)}, "0", "8", "-1 0 1 0 0 -1 2\na0 t\n"},
		{"its name is kept, class 0 is not", []impl.Class{opening("a0 t", seven)}, "", "7 8", "-1 0 1 0 0 -1 2\na0 t\n"},
		{"where it begins stays as it is, kept or not", []impl.Class{opening("a5 s a6 t", seven)}, "0", "0", "-1 0 1 0 0 -1 4\na5 s a6 t\n"},
		{"what is reached stays as it is, kept or not", []impl.Class{opening("n1 q1,7 t"), two()}, "1", "7", "-1 0 1 0 0 -1 3\nn1 q1,7 t\n-1 0 1 7 0 -1 4\na7 s a7 t\n"},
		{"what is reached, another name kept", []impl.Class{opening("n1 q1,7 t"), two()}, "1", "8", "-1 0 1 0 0 -1 3\nn1 q1,7 t\n-1 0 2 7 0 -1 4 8 0 -1 2\na7 s a7 t\na0 t\n"},
		{"what is reached, another class kept", []impl.Class{opening("n1 q1,7 t"), two(), two()}, "2", "7", "-1 0 1 0 0 -1 3\nn1 q1,7 t\n-1 0 1 7 0 -1 4\na7 s a7 t\n-1 0 1 7 0 -1 2\na0 t\n"},
		{"both names of one of two classes", []impl.Class{opening("a0 t"), two(), two()}, "2", "7 8", "-1 0 1 0 0 -1 2\na0 t\n-1 0 2 7 0 -1 2 8 0 -1 2\na0 t\na0 t\n"},
		{"one name of both classes", []impl.Class{opening("a0 t"), two(), two()}, "1 2", "8", "-1 0 1 0 0 -1 2\na0 t\n-1 0 1 8 0 -1 2\na0 t\n-1 0 1 8 0 -1 2\na0 t\n"},
		{"a class that stays for another reason is not among the classes", []impl.Class{opening("n1 i a0 t"), two()}, "", "7 8", "-1 0 1 0 0 -1 4\nn1 i a0 t\n-1 0 0\n"},
		{"the class above one that is kept is not among the classes", []impl.Class{opening("a0 t"), two(), below(1, seven)}, "2", "7 8", "-1 0 1 0 0 -1 2\na0 t\n-1 0 0\n1 0 1 7 0 -1 2\na0 t\n"},
		{"a name that a class has only from above", []impl.Class{opening("a0 t"), two(), below(1)}, "2", "7 8", "-1 0 1 0 0 -1 2\na0 t\n-1 0 0\n1 0 0\n"},
		{"the last name", []impl.Class{opening("a0 t", does(19, "a1 a1 d t"))}, "0", "19", "-1 0 2 0 0 -1 2 19 0 -1 2\na0 t\na0 t\n"},
		{"name 0 of another class", []impl.Class{opening("a0 t"), alone(does(0, "a1 a1 d t"))}, "1", "0", "-1 0 1 0 0 -1 2\na0 t\n-1 0 1 0 0 -1 2\na0 t\n"},
		{"one kept below one that is reached", []impl.Class{opening("n1 q1,7 t"), two(), below(1, seven)}, "2", "7", "-1 0 1 0 0 -1 3\nn1 q1,7 t\n-1 0 1 7 0 -1 4\na7 s a7 t\n1 0 1 7 0 -1 2\na0 t\n"},
		{"one above one that is reached goes", []impl.Class{opening("n2 q2,7 t"), two(), below(1, does(7, "a9 t"))}, "", "", "-1 0 1 0 0 -1 3\nn2 q2,7 t\n-1 0 0\n1 0 1 7 0 -1 2\na9 t\n"},
		{"one above one that is reached, kept", []impl.Class{opening("n2 q2,7 t"), two(), below(1, does(7, "a9 t"))}, "1", "7", "-1 0 1 0 0 -1 3\nn2 q2,7 t\n-1 0 1 7 0 -1 2\na0 t\n1 0 1 7 0 -1 2\na9 t\n"},
	})
}

// A kept method that is not reached gives 0 or null, and keeps what it takes and gives.
func TestPromise16ShrunkToNothingDone(t *testing.T) {
	longest := "m o1,0 i" + steps(35, "h") + " a0 t"
	checkShrinkCases(t, []shrinkCase{
		{"that gives a class", []impl.Class{opening("a0 t"), alone(), alone(asks(7, "n3 t", 3)), alone()}, "2", "7", "-1 0 1 0 0 -1 2\na0 t\n-1 0 1 7 0 2 2\nm t\n-1 0 0\n"},
		{"that gives its own class", []impl.Class{opening("a0 t"), alone(), alone(asks(7, "b0 t", 2))}, "2", "7", "-1 0 1 0 0 -1 2\na0 t\n-1 0 1 7 0 1 2\nm t\n"},
		{"that gives class 0", []impl.Class{opening("a0 t", asks(7, "b0 t", 0))}, "0", "7", "-1 0 2 0 0 -1 2 7 0 0 2\na0 t\nm t\n"},
		{"that takes three", []impl.Class{opening("a0 t"), alone(), alone(asks(7, "b2 t", impl.TyInt, 4, impl.TyInt, 2)), alone(), alone()}, "2", "7", "-1 0 1 0 0 -1 2\na0 t\n-1 0 1 7 3 2 -1 1 -1 2\na0 t\n-1 0 0\n"},
		{"that takes and gives", []impl.Class{opening("a0 t", asks(7, "b1 t", 3, 3, 2)), alone(), alone(), alone()}, "0", "7", "-1 0 2 0 0 -1 2 7 2 2 1 2 2\na0 t\nm t\n-1 0 0\n-1 0 0\n"},
		{"of one step", []impl.Class{opening("a0 t"), alone(does(7, "k0"))}, "1", "7", "-1 0 1 0 0 -1 2\na0 t\n-1 0 1 7 0 -1 2\na0 t\n"},
		{"of one step that gives a class", []impl.Class{opening("a0 t"), alone(asks(7, "k0", 0))}, "1", "7", "-1 0 1 0 0 -1 2\na0 t\n-1 0 1 7 0 0 2\nm t\n"},
		{"of 40 steps", []impl.Class{opening("a0 t"), alone(does(7, longest))}, "1", "7", "-1 0 1 0 0 -1 2\na0 t\n-1 0 1 7 0 -1 2\na0 t\n"},
		{"that makes and calls others, which go", []impl.Class{opening("a0 t"), alone(does(7, "n2 i n3 q3,7 t")), alone(), alone(does(7, "a1 t"))}, "1", "7", "-1 0 1 0 0 -1 2\na0 t\n-1 0 1 7 0 -1 2\na0 t\n"},
		{"that calls another of its class, which goes", []impl.Class{opening("a0 t"), alone(does(7, "b0 q1,8 t"), does(8, "a8 t"))}, "1", "7", "-1 0 1 0 0 -1 2\na0 t\n-1 0 1 7 0 -1 2\na0 t\n"},
		{"that would not be accepted", []impl.Class{opening("a0 t"), alone(does(7, "d s"), asks(8, "a0 t", 0))}, "1", "7 8", "-1 0 1 0 0 -1 2\na0 t\n-1 0 2 7 0 -1 2 8 0 0 2\na0 t\nm t\n"},
		{"four of one class", []impl.Class{opening("a0 t"), alone(does(0, "a9 t"), asks(1, "m t", 1), does(18, "a9 t"), asks(19, "m t", 0))}, "1", "0 1 18 19", "-1 0 1 0 0 -1 2\na0 t\n-1 0 4 0 0 -1 2 1 0 1 2 18 0 -1 2 19 0 0 2\na0 t\nm t\na0 t\nm t\n"},
	})
	p := impl.Program{Classes: []impl.Class{opening("a0 t"), alone(does(7, "d s"), asks(8, "a0 t", 0))}}
	if impl.Sound(p) || !impl.Sound(impl.Shrunk(p, []int64{1}, []int64{7, 8})) {
		t.Error("what is Shrunk of a method that would not be accepted")
	}
}

// Which classes stay is asked of the whole: what the Args and Gives of a method name that goes stays, too.
func TestPromise16ShrunkAsksTheWhole(t *testing.T) {
	chain := func() []impl.Class {
		return []impl.Class{opening("a0 t", asks(5, "m t", 5)), alone(asks(7, "m t", 2), asks(8, "a0 t", impl.TyInt, 3)), holding(-1, 4), alone(), alone(asks(7, "m t", 5)), alone()}
	}
	zero, none := "-1 0 1 0 0 -1 2\na0 t\n", "-1 0 0\n"
	behind := "-1 1 4 0\n" + none + none + none
	checkShrinkCases(t, []shrinkCase{
		{"no names", chain(), "1", "", zero + none + behind},
		{"another name", chain(), "1", "9", zero + none + behind},
		{"the name that gives", chain(), "1", "7", zero + "-1 0 1 7 0 2 2\nm t\n" + behind},
		{"the name that takes", chain(), "1", "8", zero + "-1 0 1 8 1 3 -1 2\na0 t\n" + behind},
		{"both names", chain(), "1", "7 8", zero + "-1 0 2 7 0 2 2 8 1 3 -1 2\nm t\na0 t\n" + behind},
		{"the class that is brought is among the classes, too", chain(), "1 4", "7", zero + "-1 0 1 7 0 2 2\nm t\n-1 1 4 0\n-1 0 0\n-1 0 1 7 0 5 2\nm t\n-1 0 0\n"},
		{"the class that is brought alone", chain(), "4", "", zero + none + none},
		{"the class ahead of it", chain(), "2", "7", zero + "-1 1 2 0\n" + none + none},
		{"the last one names none", chain(), "5", "7", zero + none},
		{"class 0 is kept, its other name is not", chain(), "0", "0", zero + none},
		{"class 0 is kept, and its other name", chain(), "0", "5", "-1 0 2 0 0 -1 2 5 0 1 2\na0 t\nm t\n" + none},
		{"no classes", chain(), "", "", zero},
		{"no classes, all names", chain(), "", "0 5 7 8", zero},
	})
	p := impl.Program{Classes: chain()}
	for keep, want := range map[string]string{"": "0 -1 -1 -1 -1 -1", "0": "0 -1 -1 -1 -1 1", "1": "0 1 2 3 4 5", "2": "0 -1 1 -1 2 3", "4": "0 -1 -1 -1 1 2", "5": "0 -1 -1 -1 -1 1"} {
		if got := impl.NewNumbers(p, numbersIn(keep)); !slices.Equal(got, numbersIn(want)) {
			t.Errorf("NewNumbers(%s) = %v, want %s", keep, got, want)
		}
	}
}

// What a method names that goes brings others as all that is kept does: by Super and Fields, and by methods, which go themselves.
func TestPromise16ShrunkBringsByWhatGoes(t *testing.T) {
	zero, none := "-1 0 1 0 0 -1 2\na0 t\n", "-1 0 0\n"
	one := func(m ...impl.Method) []impl.Class {
		return []impl.Class{opening("a0 t"), alone(), alone(m...), below(1), {Super: 3, Fields: []int64{impl.TyInt, 5}}, alone(does(7, "a7 t"))}
	}
	gives, takes := asks(2, "m t", 4), asks(2, "a0 t", impl.TyInt, impl.TyInt, 0, 4)
	all := zero + none + none + "1 0 0\n3 2 -1 5 0\n" + none
	called := func(m impl.Method) []impl.Class {
		return []impl.Class{opening("n2 q2,7 t"), alone(), alone(m, does(7, "a7 t")), alone(), alone()}
	}
	made := "-1 0 1 0 0 -1 3\nn1 q1,7 t\n-1 0 1 7 0 -1 2\na7 t\n"
	checkShrinkCases(t, []shrinkCase{
		{"by Super and Fields of what it gives", one(gives), "2", "", all},
		{"by Super and Fields of what it takes", one(takes), "2", "", all},
		{"by its last method", one(does(3, "a0 t"), does(4, "a0 t"), does(5, "a0 t"), asks(19, "m t", 4)), "2", "", all},
		{"the method stays", one(gives), "2", "2", zero + none + "-1 0 1 2 0 4 2\nm t\n1 0 0\n3 2 -1 5 0\n" + none},
		{"its name alone is kept", one(gives), "", "2", zero},
		{"one that it brings is kept", one(gives), "3", "2", zero + none + "1 0 0\n"},
		{"another class is kept", one(takes), "5", "2", zero + none},
		{"it gives its own class", one(asks(2, "m t", 2)), "2", "", zero + none},
		{"its code brings none", one(does(2, "n4 q5,7 o4,0 t")), "2", "", zero + none},
		{"a class above brings by a method that goes", []impl.Class{opening("a0 t"), alone(asks(2, "m t", 4)), below(1), alone(), alone()}, "2", "2", zero + none + "1 0 0\n" + none},
		{"a class in a field brings by a method that goes", []impl.Class{opening("a0 t"), alone(takes), holding(-1, 1), alone(), alone()}, "2", "2", zero + none + "-1 1 1 0\n" + none},
		{"one method that goes names a class, whose method that goes names the next", []impl.Class{opening("a0 t"), alone(asks(2, "m t", 2)), alone(asks(3, "a0 t", impl.TyInt, 4)), alone(), alone(asks(4, "m t", 5)), alone()}, "1", "", zero + none + none + none + none},
		{"round and round", []impl.Class{opening("a0 t"), alone(asks(2, "m t", 3)), alone(), alone(asks(2, "m t", 1))}, "3", "", zero + none + none},
		{"what is Needed brings none by a method that goes", called(asks(2, "m t", 4)), "", "2", made},
		{"what is Needed and kept brings by a method that goes", called(asks(2, "m t", 4)), "2", "", made + none},
		{"what is Needed is brought by another one", append(called(asks(2, "m t", 4)), holding(-1, 2)), "5", "", made + none + "-1 1 1 0\n"},
	})
}

// What is Shrunk calls, makes and looks into what it did, under other numbers.
func TestPromise16ShrunkIsHeardTheSame(t *testing.T) {
	for _, c := range []struct {
		main  string
		heard string
		cost  int64
		left  int
	}{
		{"a5 s a0 t", "5;1,0", 4, 1},
		{"n2 q2,1 t", ";1,5", 8, 2},
		{"n4 q2,1 t", ";1,6", 8, 3},
		{"n5 q2,1 t", ";1,6", 8, 4},
		{"n5 q4,1 s n4 q5,2 t", "6;6", 10, 4},
		{"n5 h o5,0 s o5,1 r s a1 a0 g t", "0 1;2", 10, 4},
		{"n5 c1 b1 b1 p5,1 b1 o5,1 o5,1 o5,0 t", ";1,0", 10, 4},
		{"n5 c1 b1 a9 p5,0 b1 o5,0 t", ";1,9", 8, 4},
		{"n5 o5,1 o5,0 t", ";3", 3, 4},
		{"m q2,1 t", ";3", 2, 2},
		{"a1 a0 g t", ";2", 3, 1},
		{"n2 i k0", ";4", 148, 2},
		{"b0 q0,0 t", ";5", 60, 1},
		{"n1 n3 d t", ";6", 3, 3},
		{"n1 q1,1 t", ";6", 2, 2},
	} {
		p := impl.Program{Classes: []impl.Class{
			opening(c.main, does(3, "n1 i a3 t")),
			alone(does(7, "n3 i a7 t")),
			alone(does(1, "b0 q2,2 t"), does(2, "a5 t")),
			alone(does(1, "a9 t")),
			below(2, does(2, "a6 t")),
			{Super: 4, Fields: []int64{impl.TyInt, 5}, Methods: []impl.Method{does(8, "a8 t")}},
		}}
		for _, q := range []impl.Program{p, impl.Shrunk(p, nil, nil), impl.Shrunk(p, []int64{3}, []int64{1}), impl.Shrunk(p, numbersBelow(6), numbersBelow(20))} {
			if got, cost := impl.Heard(impl.Ran(q, 150)), impl.Cost(q, 150); got != c.heard || cost != c.cost {
				t.Errorf("%q: heard %q in %d, want %q in %d, of %s", c.main, got, cost, c.heard, c.cost, impl.ShowProgram(q))
			}
		}
		checkEveryShrunk(t, p)
		if got := impl.Shrunk(p, nil, nil); len(got.Classes) != c.left {
			t.Errorf("%q: %d classes left, want %d", c.main, len(got.Classes), c.left)
		}
	}
}

// These are programs of other chapters' tests.
func TestPromise16Families(t *testing.T) {
	for _, p := range []impl.Program{lone(), row(), family(), soundFamily(), fullDoubles(t), sharing(), chapel(), impl.Single(fullDoubles(t))} {
		checkEveryKeep(t, p)
		checkEveryShrunk(t, p)
	}
	p := chapel()
	if got, want := impl.ShowProgram(impl.Shrunk(p, nil, nil)), "-1 2 2 -1 2 0 0 -1 3 3 0 -1 2\nb0 q0,3 t\na3 t\n-1 0 0\n1 2 -1 0 0\n"; got != want {
		t.Errorf("the chapel is shown as %q, want %q", got, want)
	}
}

// spareList has a mark in the room behind it.
func spareList(list []int64) ([]int64, []int64) {
	whole := append(slices.Clone(list), 55, 55, 55)
	return whole[:len(list)], whole
}

// checkShrinkMemory writes into what is answered; neither an argument, nor the room behind it, nor an answer of before or after changes by it.
func checkShrinkMemory(t *testing.T, plain impl.Program, plainFirst []int64, plainSecond []int64) {
	t.Helper()
	p, whole := roomy(plain)
	_, wantWhole := roomy(plain)
	first, wholeFirst := spareList(plainFirst)
	second, wholeSecond := spareList(plainSecond)
	programs := func() []impl.Program {
		return []impl.Program{impl.Without(p, first), impl.Without(p, second), impl.Shrunk(p, first, second), impl.Shrunk(p, second, first), impl.Shrunk(p, first, first)}
	}
	numbers := func() [][]int64 { return [][]int64{impl.NewNumbers(p, first), impl.NewNumbers(p, second)} }
	spoiled, kept, list, others := programs(), programs(), numbers(), numbers()
	var want []impl.Program
	for _, one := range spoiled {
		want = append(want, twin(one))
	}
	wantNumbers := cloned(list)
	checkNoneShared(t, "NewNumbers", list)
	for _, one := range spoiled {
		spoilProgram(t, one)
	}
	if again := programs(); !slices.EqualFunc(kept, want, sameProgram) || !slices.EqualFunc(again, want, sameProgram) {
		t.Fatalf("answers %v, and again %v, want %v", kept, again, want)
	}
	if again := numbers(); !slices.EqualFunc(others, wantNumbers, slices.Equal) || !slices.EqualFunc(again, wantNumbers, slices.Equal) {
		t.Fatalf("NewNumbers = %v, and again %v, want %v", others, again, wantNumbers)
	}
	if !sameProgram(p, plain) || !reflect.DeepEqual(whole, wantWhole) {
		t.Fatalf("a program, or the room behind it, is changed: %v", plain)
	}
	_, wantFirst := spareList(plainFirst)
	_, wantSecond := spareList(plainSecond)
	if !slices.Equal(wholeFirst, wantFirst) || !slices.Equal(wholeSecond, wantSecond) {
		t.Fatalf("a list, or the room behind it, is changed: %v, %v", wholeFirst, wholeSecond)
	}
}

func TestPromise21ShrinkIsNewMemory(t *testing.T) {
	programs := []impl.Program{{}, lone(), row(), family(), soundFamily(), sharing(), fullDoubles(t), chapel()}
	for _, p := range wrongFamilies(t) {
		programs = append(programs, p)
	}
	for seed := range uint64(100) {
		programs = append(programs, drawnProgram(seed), livelyProgram(seed), muddled(seed), chorus(seed), sprawling(seed), errands(seed))
	}
	for k, p := range programs {
		if len(p.Classes) > 100 {
			continue
		}
		next := drawer(uint64(k))
		checkShrinkMemory(t, p, nil, []int64{0, 1, 7})
		checkShrinkMemory(t, p, numbersBelow(int64(len(p.Classes))), numbersBelow(20))
		checkShrinkMemory(t, p, drawnKeep(next, len(p.Classes)), drawnKeep(next, 20))
		checkShrinkMemory(t, p, []int64{1, 0, 23, -5}, []int64{7, 7})
	}
}

// The lists of a program may be the same ones everywhere, and those that are kept the same as a program's.
func TestPromise21ShrinkOfListsThatAreShared(t *testing.T) {
	p, kept := sharing(), twin(sharing())
	for _, c := range [][2][]int64{{nil, nil}, {{0, 1, 2, 3, 4}, {4, 5, 6}}, {{1, 2}, {4, 5}}, {{3, 4}, {5}}} {
		want := twin(impl.Shrunk(p, c[0], c[1]))
		checkShrunk(t, p, c[0], c[1])
		spoilProgram(t, impl.Shrunk(p, c[0], c[1]))
		spoilProgram(t, impl.Without(p, []int64{24, 46}))
		if !sameProgram(p, kept) || !sameProgram(impl.Shrunk(p, c[0], c[1]), want) {
			t.Fatalf("an argument is changed: %v", p)
		}
	}
	both := []int64{0, 1}
	q := impl.Program{Classes: []impl.Class{opening("a0 t"), {Super: -1, Fields: both, Methods: []impl.Method{asks(1, "m t", 1, both...)}}}}
	numbers := impl.NewNumbers(q, both)
	spoilProgram(t, impl.Shrunk(q, both, both))
	spoilList(numbers)
	if !slices.Equal(both, []int64{0, 1}) || !slices.Equal(impl.NewNumbers(q, both), []int64{0, 1}) {
		t.Errorf("a list that is kept is changed: %v", both)
	}
}

// What is put behind an empty answer is not in the next one.
func TestPromise21ShrinkOfNothing(t *testing.T) {
	for _, keep := range [][]int64{{1}, {0, 0}, {-1}} {
		none, zero := impl.NewNumbers(lone(), keep), impl.Shrunk(lone(), keep, nil)
		_ = append(none, 5, 6, 7)
		spoilList(none)
		_ = append(zero.Classes, impl.Class{Super: 5})
		if got := impl.NewNumbers(lone(), keep); len(got) != 0 {
			t.Errorf("NewNumbers again = %v", got)
		}
		if got := impl.Shrunk(lone(), keep, nil); len(got.Classes) != 0 {
			t.Errorf("Shrunk again = %v", got)
		}
	}
	zero := impl.Without(lone(), []int64{0})
	_ = append(zero.Classes, impl.Class{Super: 5})
	if got := impl.Without(lone(), []int64{0}); len(got.Classes) != 0 {
		t.Errorf("Without again = %v", got)
	}
}

// Code, Classes and numbers that lie behind those that are given are not theirs.
func TestPromise21ShrinkOfWhatLiesBehind(t *testing.T) {
	long := codeOfInsns("a0 n1 i n2 i n3 i n4 i m q5,7 t")
	classes := []impl.Class{opening("a0 t"), alone(), alone(), alone(), alone(), alone(does(7, "a1 t"), does(8, "a1 t")), alone()}
	lists := []int64{0, 1, 2, 3, 4, 5, 6, 7, 8}
	for n := 1; n <= 6; n++ {
		for steps := 1; steps <= len(long); steps++ {
			p := impl.Program{Classes: classes[:n]}
			p.Classes[0].Methods[0].Code = long[:steps]
			for kept := 0; kept <= n; kept++ {
				checkShrunk(t, p, lists[:kept], lists[5:8])
				checkNewNumbers(t, p, lists[:kept])
			}
			checkNotShrunk(t, "one class too many", p, lists[:n+1])
		}
	}
	p := impl.Program{Classes: classes}
	checkNotShrunk(t, "seven classes", p, nil)
}
