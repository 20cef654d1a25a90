package tests

import (
	"fmt"
	"math"
	"reflect"
	"slices"
	"testing"

	"loop.example/g00334/impl"
)

// doubleTold tells a method from another by how its code is printed.
func doubleTold(p impl.Program, class int64, name int64) bool {
	if wrongWith(p) != "" || !isThere(p, class) || !ownsName(p, class, name) || p.Classes[class].Super < 0 {
		return false
	}
	above := selectedIn(p, underIn(p), p.Classes[class].Super, name)
	return above >= 0 && printedCode(p, class, name) == printedCode(p, above, name)
}

func printedCode(p impl.Program, class int64, name int64) string {
	for _, m := range p.Classes[class].Methods {
		if m.Name == name {
			return fmt.Sprint(m.Code)
		}
	}
	return "none"
}

// doublesTold asks for every number there could be.
func doublesTold(p impl.Program) []int64 {
	return slices.DeleteFunc(numbersBelow(6*20), func(n int64) bool { return !doubleTold(p, n/20, n%20) })
}

func numbersBelow(n int64) []int64 {
	var all []int64
	for k := range n {
		all = append(all, k)
	}
	return all
}

func singleTold(p impl.Program) impl.Program {
	if wrongWith(p) != "" {
		return impl.Program{}
	}
	out := twin(p)
	for k := range out.Classes {
		c := &out.Classes[k]
		c.Methods = slices.DeleteFunc(c.Methods, func(m impl.Method) bool { return doubleTold(p, int64(k), m.Name) })
	}
	return out
}

// checkSingle holds Doubles and Single of one program against the chapter's words told once more, and Double of each method.
func checkSingle(t *testing.T, p impl.Program) {
	t.Helper()
	doubles, single := doublesTold(p), impl.Single(p)
	if got := impl.Doubles(p); !slices.Equal(got, doubles) {
		t.Fatalf("Doubles = %v, want %v, of %v", got, doubles, p)
	}
	if want := singleTold(p); !sameProgram(single, want) {
		t.Fatalf("Single = %v, want %v, of %v", single, want, p)
	}
	if wrongWith(p) != "" {
		return
	}
	for _, at := range methodsOf(p) {
		if got := impl.Double(p, at[0], at[1]); got != slices.Contains(doubles, at[0]*20+at[1]) {
			t.Fatalf("Double(%d, %d) = %v, of %v", at[0], at[1], got, p)
		}
	}
	if why := wrongWith(single); why != "" || !impl.ProgramOk(single) {
		t.Fatalf("Single = %v: %s is wrong, of %v", single, why, p)
	}
	if again := impl.Doubles(single); len(again) != 0 || !sameProgram(impl.Single(single), single) {
		t.Fatalf("Doubles of what is Single = %v, of %v", again, p)
	}
	checkSaidAlike(t, p, single)
}

// checkSaidAlike asks of each class and each name whether what is Selected does what it did.
func checkSaidAlike(t *testing.T, p impl.Program, single impl.Program) {
	t.Helper()
	for class := range int64(len(p.Classes)) {
		for name := range int64(20) {
			was, is := impl.Selected(p, class, name), impl.Selected(single, class, name)
			if (was < 0) != (is < 0) {
				t.Fatalf("Selected(%d, %d) = %d, was %d, of %v", class, name, is, was, p)
			}
			a, _ := impl.MethodOf(p, was, name)
			b, _ := impl.MethodOf(single, is, name)
			if !sameMethod(a, b) {
				t.Fatalf("Selected(%d, %d) is %v, was %v, of %v", class, name, b, a, p)
			}
		}
	}
}

// checkDoubleEverywhere asks Double of each class and each name, there or not.
func checkDoubleEverywhere(t *testing.T, p impl.Program) {
	t.Helper()
	for _, class := range someClasses(p) {
		for _, name := range someNames() {
			if got := impl.Double(p, class, name); got != doubleTold(p, class, name) {
				t.Fatalf("Double(%d, %d) = %v, of %v", class, name, got, p)
			}
		}
	}
	checkSingle(t, p)
}

// A saying is one class: its Super, and the codes of its methods by their names, which take no Args and give TyInt.
type saying struct {
	super int64
	codes map[int64]string
}

// sayings is a program of these; its class 0 begins where nothing else is told.
func sayings(t *testing.T, all ...saying) impl.Program {
	t.Helper()
	var p impl.Program
	for k, one := range all {
		c := impl.Class{Super: one.super}
		for name := range int64(20) {
			text, is := one.codes[name]
			if is {
				c.Methods = append(c.Methods, impl.Method{Name: name, Gives: impl.TyInt, Code: codeOf(t, text)})
			} else if k == 0 && name == 0 {
				c.Methods = append(c.Methods, begins())
			}
		}
		p.Classes = append(p.Classes, c)
	}
	if why := wrongWith(p); why != "" {
		t.Fatalf("%s is wrong, of %v", why, p)
	}
	return p
}

// sevens is a program with a class for each Super, whose method 7 has this code; none where it is empty.
func sevens(t *testing.T, supers []int64, codes ...string) impl.Program {
	t.Helper()
	var all []saying
	for k, super := range supers {
		one := saying{super, map[int64]string{}}
		if codes[k] != "" {
			one.codes[7] = codes[k]
		}
		all = append(all, one)
	}
	return sayings(t, all...)
}

func TestPromise13Double(t *testing.T) {
	line, pair := []int64{-1, 0, 1, 2}, []int64{-1, 0}
	for _, c := range []struct {
		why    string
		p      impl.Program
		class  int64
		double bool
	}{
		{"Super has the same", sevens(t, pair, "a8 t", "a8 t"), 1, true},
		{"the one above itself", sevens(t, pair, "a8 t", "a8 t"), 0, false},
		{"Super has another one", sevens(t, pair, "a8 t", "a9 t"), 1, false},
		{"Super has none of it", sevens(t, pair, "", "a8 t"), 1, false},
		{"the class has none of it", sevens(t, pair, "a8 t", ""), 1, false},
		{"the class has none of it, and is between two that do", sevens(t, line, "a8 t", "", "a8 t", ""), 1, false},
		{"nobody has it", sevens(t, pair, "", ""), 1, false},
		{"Super's Super has the same, Super none", sevens(t, line, "a8 t", "", "a8 t", ""), 2, true},
		{"the highest of four has the same, those between none", sevens(t, line, "a8 t", "", "", "a8 t"), 3, true},
		{"Super's Super has another one, Super none", sevens(t, line, "a9 t", "", "a8 t", ""), 2, false},
		{"Super differs, Super's Super has the same", sevens(t, line, "a8 t", "a9 t", "a8 t", ""), 2, false},
		{"Super differs, two higher ones have the same", sevens(t, line, "a8 t", "a8 t", "a9 t", "a8 t"), 3, false},
		{"Super has none, the next one differs, the highest has the same", sevens(t, line, "a8 t", "a9 t", "", "a8 t"), 3, false},
		{"Super has the same, the highest another one", sevens(t, line, "a9 t", "a8 t", "a8 t", ""), 2, true},
		{"Super is Double itself", sevens(t, line, "a8 t", "a8 t", "a8 t", ""), 2, true},
		{"no class above, the one ahead has the same", sevens(t, []int64{-1, -1}, "a8 t", "a8 t"), 1, false},
		{"no class above, alone", sevens(t, []int64{-1}, "a8 t"), 0, false},
		{"only a class beside it has the same", sevens(t, []int64{-1, 0, 0}, "", "a8 t", "a8 t"), 2, false},
		{"a class beside it has the same, that above another one", sevens(t, []int64{-1, 0, 0}, "a9 t", "a8 t", "a8 t"), 2, false},
		{"only a class below it has the same", sevens(t, line, "", "a8 t", "a8 t", ""), 1, false},
		{"the one ahead differs, Super has the same", sevens(t, []int64{-1, 0, 0}, "a8 t", "a9 t", "a8 t"), 2, true},
		{"Super is not class 0", sevens(t, []int64{-1, -1, 1}, "a9 t", "a8 t", "a8 t"), 2, true},
		{"only class 0 has the same, which is not above", sevens(t, []int64{-1, -1, 1}, "a8 t", "a9 t", "a8 t"), 2, false},
	} {
		if got := impl.Double(c.p, c.class, 7); got != c.double {
			t.Errorf("%s: Double(%d, 7) = %v", c.why, c.class, got)
		}
		checkDoubleEverywhere(t, c.p)
	}
}

func TestPromise13DoubleOfOtherNames(t *testing.T) {
	for _, c := range []struct {
		why   string
		above map[int64]string
		own   map[int64]string
		want  []int64
	}{
		{"the same code under another name", map[int64]string{7: "a8 t"}, map[int64]string{8: "a8 t"}, nil},
		{"the codes of two names changed about", map[int64]string{7: "a8 t", 8: "a9 t"}, map[int64]string{7: "a9 t", 8: "a8 t"}, nil},
		{"one of two", map[int64]string{7: "a8 t", 8: "a9 t"}, map[int64]string{7: "a9 t", 8: "a9 t"}, []int64{28}},
		{"the other of two", map[int64]string{7: "a8 t", 8: "a9 t"}, map[int64]string{7: "a8 t", 8: "a8 t"}, []int64{27}},
		{"two names, one code", map[int64]string{7: "a8 t", 8: "a8 t"}, map[int64]string{7: "a8 t", 8: "a8 t"}, []int64{27, 28}},
		{"the beginning once more", nil, map[int64]string{0: "a0 t"}, []int64{20}},
		{"another beginning", nil, map[int64]string{0: "a1 t"}, nil},
		{"the last name", map[int64]string{19: "a8 t"}, map[int64]string{19: "a8 t"}, []int64{39}},
	} {
		p := sayings(t, saying{-1, c.above}, saying{0, c.own})
		if got := impl.Doubles(p); !slices.Equal(got, c.want) {
			t.Errorf("%s: Doubles = %v, want %v", c.why, got, c.want)
		}
		checkDoubleEverywhere(t, p)
	}
}

// Codes that differ in one number of one step are not the same, wherever that is.
func TestPromise13DoubleOfOneFieldThatDiffers(t *testing.T) {
	const text = "a8 b1 c1 l5 q1,2 o1,2 p1,1 n2 k2 t"
	looked := map[string]int{}
	for at, i := range codeOf(t, text) {
		for field, other := range map[string]impl.Insn{
			"Op": {Op: i.Op + 1, A: i.A, B: i.B}, "Op less": {Op: i.Op - 1, A: i.A, B: i.B},
			"A": {Op: i.Op, A: i.A + 1, B: i.B}, "A less": {Op: i.Op, A: i.A - 1, B: i.B},
			"B": {Op: i.Op, A: i.A, B: i.B + 1}, "B less": {Op: i.Op, A: i.A, B: i.B - 1},
		} {
			p := sevens(t, []int64{-1, 0}, text, text)
			if !impl.Double(p, 1, 7) {
				t.Fatal("the same code is not Double")
			}
			changed := p.Classes[1].Methods[0].Code
			changed[at] = other
			if wrongWith(p) == "" {
				looked[field]++
			}
			if impl.Double(p, 1, 7) {
				t.Errorf("%v in the place of %v, at %d: Double", other, i, at)
			}
			checkSingle(t, p)
			above := sevens(t, []int64{-1, 0}, text, text)
			above.Classes[0].Methods[1].Code[at] = other
			if impl.Double(above, 1, 7) {
				t.Errorf("%v in the place of %v, at %d above: Double", other, i, at)
			}
			checkSingle(t, above)
		}
	}
	for field, least := range map[string]int{"Op": 2, "Op less": 2, "A": 7, "A less": 7, "B": 3, "B less": 3} {
		if looked[field] < least {
			t.Errorf("only %d that differ in %s are right", looked[field], field)
		}
	}
}

func TestPromise13DoubleOfLength(t *testing.T) {
	long := "a1" + steps(39, "t")
	for _, c := range [][2]string{
		{"t", "t t"}, {"a8 t", "a8"}, {"a8 t", "a8 t t"}, {"a8 t", "t"}, {"a8 t", "a8 a8 t"}, {"k0", "k0 k0"},
		{long, "a1" + steps(38, "t")}, {long, "a1"}, {long, "t"},
	} {
		for _, codes := range [][2]string{c, {c[1], c[0]}} {
			p := sevens(t, []int64{-1, 0}, codes[0], codes[1])
			if impl.Double(p, 1, 7) {
				t.Errorf("%q below %q is Double", codes[1], codes[0])
			}
			checkSingle(t, p)
		}
		for _, code := range c {
			p := sevens(t, []int64{-1, 0}, code, code)
			if !impl.Double(p, 1, 7) {
				t.Errorf("%q below the same is not Double", code)
			}
			checkSingle(t, p)
		}
	}
}

// Two codes with nothing in them are the same, but no method has such a one.
func TestPromise13DoubleOfNothing(t *testing.T) {
	for _, codes := range [][2][]impl.Insn{{nil, nil}, {{}, {}}, {nil, {}}, {{}, nil}, {nil, codeOf(t, "t")}, {codeOf(t, "t"), nil}} {
		p := sevens(t, []int64{-1, 0, 1}, "t", "t", "t")
		p.Classes[0].Methods[1].Code, p.Classes[1].Methods[0].Code = codes[0], codes[1]
		checkNoDoubles(t, fmt.Sprint("codes ", codes), p)
	}
}

// checkNoDoubles asks that every function of the chapter gives its one fixed answer.
func checkNoDoubles(t *testing.T, why string, p impl.Program) {
	t.Helper()
	if wrongWith(p) == "" {
		t.Fatalf("%s: the test itself finds nothing wrong", why)
	}
	for _, class := range someClasses(impl.Program{}) {
		for _, name := range someNames() {
			if impl.Double(p, class, name) {
				t.Errorf("%s: Double(%d, %d)", why, class, name)
			}
		}
	}
	if got := impl.Doubles(p); len(got) != 0 {
		t.Errorf("%s: Doubles = %v", why, got)
	}
	if got := impl.Single(p); len(got.Classes) != 0 {
		t.Errorf("%s: Single = %v", why, got)
	}
}

// fullDoubles has six classes in a row, each with the same four methods.
func fullDoubles(t *testing.T) impl.Program {
	codes := map[int64]string{0: "a3 t", 1: "a8 t", 18: "a8 t", 19: "k0"}
	return sayings(t, saying{-1, codes}, saying{0, codes}, saying{1, codes}, saying{2, codes}, saying{3, codes}, saying{4, codes})
}

// Numbers that are near to those of methods, if they were cut down or gone round, are none.
func TestPromise13DoubleOfWhatIsNotThere(t *testing.T) {
	p := fullDoubles(t)
	if !impl.Double(p, 1, 0) || !impl.Double(p, 5, 19) {
		t.Fatal("not Double")
	}
	for _, class := range []int64{math.MinInt64, math.MinInt64 + 1, -1<<32 + 1, -20, -6, -5, -2, -1, 6, 7, 20, 25, 1<<8 + 1, 1<<32 + 1, math.MaxInt64} {
		for _, name := range someNames() {
			if impl.Double(p, class, name) {
				t.Errorf("Double(%d, %d)", class, name)
			}
		}
	}
	for class := range int64(6) {
		for _, name := range []int64{math.MinInt64, math.MinInt64 + 1, -1<<32 + 1, -20, -19, -2, -1, 20, 21, 38, 39, 1<<8 + 1, 1<<32 + 1, math.MaxInt64} {
			if impl.Double(p, class, name) {
				t.Errorf("Double(%d, %d)", class, name)
			}
		}
	}
	checkDoubleEverywhere(t, p)
}

func TestPromise13WrongPrograms(t *testing.T) {
	for why, p := range wrongFamilies(t) {
		checkNoDoubles(t, why, p)
	}
	for why, change := range map[string]func(p *impl.Program){
		"no classes":                         func(p *impl.Program) { p.Classes = nil },
		"seven classes":                      func(p *impl.Program) { p.Classes = append(p.Classes, impl.Class{Super: -1}) },
		"the last above itself":              func(p *impl.Program) { p.Classes[5].Super = 5 },
		"two above each other":               func(p *impl.Program) { p.Classes[4].Super = 5 },
		"the last below none that is there":  func(p *impl.Program) { p.Classes[5].Super = 6 },
		"the last below -2":                  func(p *impl.Program) { p.Classes[5].Super = -2 },
		"the last one's field":               func(p *impl.Program) { p.Classes[5].Fields = []int64{6} },
		"the last one's Gives":               func(p *impl.Program) { p.Classes[5].Methods[3].Gives = 0 },
		"the last one's Args":                func(p *impl.Program) { p.Classes[5].Methods[3].Args = []int64{impl.TyInt} },
		"the last one's name":                func(p *impl.Program) { p.Classes[5].Methods[3].Name = 20 },
		"the last one's name as that ahead":  func(p *impl.Program) { p.Classes[5].Methods[3].Name = 18 },
		"the last one's code without a step": func(p *impl.Program) { p.Classes[5].Methods[3].Code = nil },
		"the last one's jump":                func(p *impl.Program) { p.Classes[5].Methods[3].Code[0].A = 1 },
		"the last one's step":                func(p *impl.Program) { p.Classes[5].Methods[3].Code[0].B = 1 },
		"no beginning":                       func(p *impl.Program) { p.Classes[0].Methods = p.Classes[0].Methods[1:] },
		"the first one's name below 0":       func(p *impl.Program) { p.Classes[1].Methods[0].Name = -1 },
	} {
		p := fullDoubles(t)
		change(&p)
		checkNoDoubles(t, why, p)
	}
}

func TestPromise13Doubles(t *testing.T) {
	eights := func(names ...int64) map[int64]string {
		codes := map[int64]string{}
		for _, name := range names {
			codes[name] = "a8 t"
		}
		return codes
	}
	nine := map[int64]string{7: "a9 t"}
	for _, c := range []struct {
		why string
		p   impl.Program
		// want is what Doubles answers, left how many methods stay in each class.
		want, left string
	}{
		{"the least program", lone(), "", "1"},
		{"none", sayings(t, saying{-1, eights(7)}, saying{0, nine}, saying{1, eights(7)}), "", "2 1 1"},
		{"none, as none is above", sayings(t, saying{-1, eights(7)}, saying{-1, eights(7)}, saying{-1, eights(7)}), "", "2 1 1"},
		{"none, as nothing is said below", sayings(t, saying{-1, eights(7)}, saying{0, nil}, saying{1, nil}), "", "2 0 0"},
		{"one", sayings(t, saying{-1, eights(7)}, saying{0, eights(7)}), "27", "2 0"},
		{"several in one class", sayings(t, saying{-1, eights(3, 7, 19)}, saying{0, eights(3, 7, 19)}), "23 27 39", "4 0"},
		{"several in one class, others between", sayings(t, saying{-1, eights(3, 7, 19)}, saying{0, map[int64]string{2: "a8 t", 3: "a8 t", 7: "a9 t", 19: "a8 t"}}), "23 39", "4 2"},
		{"several, from several above", sayings(t, saying{-1, eights(3)}, saying{0, eights(5)}, saying{1, eights(9)}, saying{2, eights(3, 5, 9)}), "63 65 69", "2 1 1 0"},
		{"in several classes", sayings(t, saying{-1, eights(7)}, saying{0, eights(7)}, saying{0, eights(7)}, saying{-1, eights(7)}, saying{3, eights(7)}), "27 47 87", "2 0 0 1 0"},
		{"in several classes, the lesser name behind", sayings(t, saying{-1, eights(1, 19)}, saying{0, eights(19)}, saying{0, eights(1)}), "39 41", "3 0 0"},
		{"in a row of three that all say the same", sayings(t, saying{-1, eights(7)}, saying{0, eights(7)}, saying{1, eights(7)}), "27 47", "2 0 0"},
		{"in a row of three, the first says another thing", sayings(t, saying{-1, nine}, saying{0, eights(7)}, saying{1, eights(7)}), "47", "2 1 0"},
		{"in a row of three, the last says another thing", sayings(t, saying{-1, eights(7)}, saying{0, eights(7)}, saying{1, nine}), "27", "2 0 1"},
		{"to and fro", sayings(t, saying{-1, eights(7)}, saying{0, nine}, saying{1, eights(7)}, saying{2, nine}), "", "2 1 1 1"},
		{"two and two", sayings(t, saying{-1, eights(7)}, saying{0, eights(7)}, saying{1, nine}, saying{2, nine}, saying{3, eights(7)}, saying{4, eights(7)}), "27 67 107", "2 0 1 0 1 0"},
		{"all that could be", fullDoubles(t), "20 21 38 39 40 41 58 59 60 61 78 79 80 81 98 99 100 101 118 119", "4 0 0 0 0 0"},
	} {
		if got := impl.Doubles(c.p); !slices.Equal(got, numbersIn(c.want)) {
			t.Errorf("%s: Doubles = %v, want %s", c.why, got, c.want)
		}
		var left []int64
		for _, class := range impl.Single(c.p).Classes {
			left = append(left, int64(len(class.Methods)))
		}
		if !slices.Equal(left, numbersIn(c.left)) {
			t.Errorf("%s: Single leaves %v, want %s", c.why, left, c.left)
		}
		checkDoubleEverywhere(t, c.p)
	}
}

// What is Single has all else as it was: fields, Supers, Args, Gives, and the other methods in their order.
func TestPromise13SingleKeepsAllElse(t *testing.T) {
	p := family()
	if got := impl.Doubles(p); !slices.Equal(got, numbersIn("83 87")) {
		t.Fatalf("Doubles of the family = %v", got)
	}
	want := impl.Program{Classes: []impl.Class{
		{Super: -1, Fields: []int64{impl.TyInt, 5}, Methods: []impl.Method{begins(), gives(3, 1, impl.TyInt, 0), gives(19, 0)}},
		{Super: -1, Methods: []impl.Method{gives(1, impl.TyInt)}},
		{Super: 0, Fields: []int64{2}, Methods: []impl.Method{gives(0, impl.TyInt), gives(7, 2, 2)}},
		{Super: 1, Fields: []int64{4, impl.TyInt, 0, 1}},
		{Super: 2, Fields: []int64{impl.TyInt, impl.TyInt, 4}, Methods: []impl.Method{gives(4, 3, 1, 2, 3), gives(8, 5)}},
		{Super: -1, Methods: []impl.Method{gives(0, 5, 5)}},
	}}
	if got := impl.Single(p); !sameProgram(got, want) {
		t.Errorf("Single = %v, want %v", got, want)
	}
	checkDoubleEverywhere(t, p)
	all := soundFamily()
	if got := impl.Doubles(all); !slices.Equal(got, numbersIn("40 83 87")) || !impl.Sound(all) || !impl.Sound(impl.Single(all)) {
		t.Errorf("Doubles = %v, Sound = %v and %v", got, impl.Sound(all), impl.Sound(impl.Single(all)))
	}
	checkDoubleEverywhere(t, all)
	for _, plain := range []impl.Program{lone(), row(), impl.Single(p), impl.Single(all)} {
		if got := impl.Single(plain); !sameProgram(got, plain) {
			t.Errorf("Single = %v, of %v", got, plain)
		}
	}
	if got, want := impl.ShowProgram(impl.Single(fullDoubles(t))), "-1 0 4 0 0 -1 2 1 0 -1 2 18 0 -1 2 19 0 -1 1\na3 t\na8 t\na8 t\nk0\n0 0 0\n1 0 0\n2 0 0\n3 0 0\n4 0 0\n"; got != want {
		t.Errorf("Single is shown as %q, want %q", got, want)
	}
}

// The same code may do another thing below: it calls what is there. It goes, and what is below is called still.
func TestPromise13SingleCallsWhatIsBelow(t *testing.T) {
	for _, c := range []struct {
		main  string
		heard string
		cost  int64
	}{
		{"n1 q1,1 t", ";1,5", 8},
		{"n2 q1,1 t", ";1,6", 8},
		{"n3 q1,1 t", ";1,6", 8},
		{"n3 q2,1 s n2 q3,2 t", "6;6", 10},
		{"n3 q1,3 t", "9;1,9", 7},
		{"m q1,1 t", ";3", 2},
	} {
		p := sayings(t,
			saying{-1, map[int64]string{0: c.main}},
			saying{-1, map[int64]string{1: "b0 q1,2 t", 2: "a5 t", 3: "a9 h s t"}},
			saying{1, map[int64]string{1: "b0 q1,2 t", 2: "a6 t", 3: "a9 h s t"}},
			saying{2, map[int64]string{1: "b0 q1,2 t", 2: "a6 t"}},
		)
		if got := impl.Doubles(p); !slices.Equal(got, numbersIn("41 43 61 62")) {
			t.Fatalf("Doubles = %v", got)
		}
		for _, one := range []impl.Program{p, impl.Single(p)} {
			if got, cost := impl.Heard(impl.Ran(one, 100)), impl.Cost(one, 100); got != c.heard || cost != c.cost {
				t.Errorf("%q: heard %q in %d, want %q in %d", c.main, got, cost, c.heard, c.cost)
			}
		}
	}
}

// sharing has the same lists everywhere, which a program may be given with.
func sharing() impl.Program {
	code := codeOfInsns("a7 s a8 t")
	other := codeOfInsns("a9 t")
	fields, args := []int64{impl.TyInt, 0}, []int64{0, impl.TyInt}
	first := []impl.Method{{Name: 0, Gives: impl.TyInt, Code: code}, {Name: 4, Args: args, Gives: impl.TyInt, Code: code}, {Name: 5, Args: args, Gives: impl.TyInt, Code: code}}
	second := []impl.Method{{Name: 4, Args: args, Gives: impl.TyInt, Code: other}, {Name: 5, Args: args, Gives: impl.TyInt, Code: code}, {Name: 6, Args: fields, Gives: impl.TyInt, Code: other}}
	return impl.Program{Classes: []impl.Class{
		{Super: -1, Fields: fields, Methods: first},
		{Super: -1, Fields: fields, Methods: second},
		{Super: 0, Fields: fields, Methods: second},
		{Super: -1, Fields: args, Methods: second},
		{Super: 3, Fields: args, Methods: second},
	}}
}

// programParts are all lists of a program, each shown without the lists in it.
func programParts(p impl.Program) []machinePart {
	var parts []machinePart
	for _, c := range p.Classes {
		parts = append(parts, spoiler(c.Fields, 77))
		for _, m := range c.Methods {
			parts = append(parts, spoiler(m.Args, 77), spoiler(m.Code, impl.Insn{Op: 77, A: 77, B: 77}))
		}
	}
	for _, c := range p.Classes {
		part := spoiler(c.Methods, impl.Method{Name: 77, Gives: 77})
		part.show = func() string {
			text := ""
			for _, m := range c.Methods {
				text += fmt.Sprintln(m.Name, m.Gives, len(m.Args), len(m.Code))
			}
			return text
		}
		parts = append(parts, part)
	}
	return append(parts, spoiler(p.Classes, impl.Class{Super: 77}))
}

// spoilProgram writes into one list after the other, and looks at those that nothing was written into yet.
func spoilProgram(t *testing.T, p impl.Program) {
	t.Helper()
	parts := programParts(p)
	var want []string
	for _, part := range parts {
		want = append(want, part.show())
	}
	for k, part := range parts {
		if k < len(parts)-1 && part.show() != want[k] {
			t.Fatalf("list %d shares memory with one ahead of it", k)
		}
		part.spoil()
	}
}

// checkSingleMemory writes into what is answered; neither an argument, nor the room behind it, nor an answer of before or after changes by it.
func checkSingleMemory(t *testing.T, plain impl.Program) {
	t.Helper()
	p, whole := roomy(plain)
	_, wantWhole := roomy(plain)
	single, second := impl.Single(p), impl.Single(p)
	doubles, others := impl.Doubles(p), impl.Doubles(p)
	want, list := twin(single), slices.Clone(doubles)
	spoilProgram(t, single)
	spoilList(doubles)
	for _, class := range someClasses(p) {
		for _, name := range []int64{-1, 0, 1, 2, 3, 4, 7, 19, 20} {
			impl.Double(p, class, name)
		}
	}
	if third := impl.Single(p); !sameProgram(second, want) || !sameProgram(third, want) {
		t.Fatalf("Single = %v, and again %v, want %v", second, third, want)
	}
	if again := impl.Doubles(p); !slices.Equal(others, list) || !slices.Equal(again, list) {
		t.Fatalf("Doubles = %v, and again %v, want %v", others, again, list)
	}
	if !sameProgram(p, plain) || !reflect.DeepEqual(whole, wantWhole) {
		t.Fatalf("an argument, or the room behind it, is changed: %v", plain)
	}
}

func TestPromise21SingleIsNewMemory(t *testing.T) {
	programs := []impl.Program{{}, lone(), family(), soundFamily(), row(), sharing(), fullDoubles(t), impl.Single(fullDoubles(t))}
	for _, p := range wrongFamilies(t) {
		programs = append(programs, p)
	}
	for seed := range uint64(300) {
		programs = append(programs, drawnProgram(seed), repeating(seed, livelyProgram(seed)), chorus(seed))
	}
	for _, p := range programs {
		if len(p.Classes) < 100 {
			checkSingleMemory(t, p)
		}
	}
}

func TestPromise21SingleOfListsThatAreShared(t *testing.T) {
	p, kept := sharing(), twin(sharing())
	checkDoubleEverywhere(t, p)
	single := impl.Single(p)
	want := twin(single)
	if got := impl.Doubles(p); !slices.Equal(got, numbersIn("45 84 85 86")) {
		t.Fatalf("Doubles = %v", got)
	}
	spoilProgram(t, single)
	if !sameProgram(p, kept) || !sameProgram(impl.Single(p), want) {
		t.Fatalf("an argument is changed: %v", p)
	}
}

// What is put behind an empty answer is not in the next one.
func TestPromise21DoublesOfNothing(t *testing.T) {
	for _, p := range []impl.Program{{}, lone(), row()} {
		none := impl.Doubles(p)
		_ = append(none, 5, 6, 7)
		spoilList(none)
		if got := impl.Doubles(p); len(got) != 0 {
			t.Errorf("Doubles again = %v", got)
		}
	}
	none := impl.Single(impl.Program{})
	_ = append(none.Classes, impl.Class{Super: 5})
	if got := impl.Single(impl.Program{}); len(got.Classes) != 0 {
		t.Errorf("Single again = %v", got)
	}
}
