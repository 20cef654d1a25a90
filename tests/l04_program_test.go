package tests

import (
	"fmt"
	"math"
	"reflect"
	"slices"
	"strings"
	"testing"

	"loop.example/g00334/impl"
)

// begins is the method that every program must have in class 0.
func begins() impl.Method {
	return impl.Method{Gives: impl.TyInt, Code: []impl.Insn{{Op: impl.OpPush}, {Op: impl.OpGive}}}
}

func gives(name int64, given int64, args ...int64) impl.Method {
	return impl.Method{Name: name, Args: args, Gives: given, Code: []impl.Insn{{Op: impl.OpNull}, {Op: impl.OpGive}}}
}

// lone is the least program: one class, one method.
func lone() impl.Program {
	return impl.Program{Classes: []impl.Class{{Super: -1, Methods: []impl.Method{begins()}}}}
}

// family has a row of three classes (0, 2 and 4), one below another row's first (3 below 1), and one alone (5).
func family() impl.Program {
	return impl.Program{Classes: []impl.Class{
		{Super: -1, Fields: []int64{impl.TyInt, 5}, Methods: []impl.Method{begins(), gives(3, 1, impl.TyInt, 0), gives(19, 0)}},
		{Super: -1, Methods: []impl.Method{gives(1, impl.TyInt)}},
		{Super: 0, Fields: []int64{2}, Methods: []impl.Method{gives(0, impl.TyInt), gives(7, 2, 2)}},
		{Super: 1, Fields: []int64{4, impl.TyInt, 0, 1}},
		{Super: 2, Fields: []int64{impl.TyInt, impl.TyInt, 4}, Methods: []impl.Method{gives(3, 1, impl.TyInt, 0), gives(4, 3, 1, 2, 3), gives(7, 2, 2), gives(8, 5)}},
		{Super: -1, Methods: []impl.Method{gives(0, 5, 5)}},
	}}
}

func twinMethod(m impl.Method) impl.Method {
	m.Args, m.Code = slices.Clone(m.Args), slices.Clone(m.Code)
	return m
}

// twin shares no memory with p.
func twin(p impl.Program) impl.Program {
	var out impl.Program
	for _, c := range p.Classes {
		next := impl.Class{Super: c.Super, Fields: slices.Clone(c.Fields)}
		for _, m := range c.Methods {
			next.Methods = append(next.Methods, twinMethod(m))
		}
		out.Classes = append(out.Classes, next)
	}
	return out
}

func sameMethod(a impl.Method, b impl.Method) bool {
	return a.Name == b.Name && a.Gives == b.Gives && slices.Equal(a.Args, b.Args) && slices.Equal(a.Code, b.Code)
}

func sameProgram(a impl.Program, b impl.Program) bool {
	return slices.EqualFunc(a.Classes, b.Classes, func(c impl.Class, d impl.Class) bool {
		return c.Super == d.Super && slices.Equal(c.Fields, d.Fields) && slices.EqualFunc(c.Methods, d.Methods, sameMethod)
	})
}

// someClasses are numbers of classes, there or not.
func someClasses(p impl.Program) []int64 {
	some := []int64{math.MinInt64, -1 << 32, -4, impl.TyNone, impl.TyNull, -1, 1 << 32, math.MaxInt64}
	for k := range max(len(p.Classes), 6) + 2 {
		some = append(some, int64(k))
	}
	return some
}

func someNames() []int64 {
	some := []int64{math.MinInt64, -2, -1, 20, 21, 1 << 32, math.MaxInt64}
	for k := range int64(20) {
		some = append(some, k)
	}
	return some
}

// wrongWith says what is wrong with a program, in the chapter's order; empty when nothing is.
func wrongWith(p impl.Program) string {
	n := int64(len(p.Classes))
	typed := func(list ...int64) bool {
		return !slices.ContainsFunc(list, func(x int64) bool { return x != impl.TyInt && (x < 0 || x > n-1) })
	}
	if n < 1 || n > 6 {
		return "how many classes"
	}
	for k, c := range p.Classes {
		if c.Super != -1 && !slices.Contains([]int64{0, 1, 2, 3, 4, 5}[:k], c.Super) {
			return fmt.Sprint("the Super of ", k)
		}
		if len(c.Fields) > 4 || !typed(c.Fields...) {
			return fmt.Sprint("the Fields of ", k)
		}
		names := []int64{}
		for _, m := range c.Methods {
			names = append(names, m.Name)
			if m.Name < 0 || m.Name > 19 || len(m.Args) > 3 || !typed(m.Args...) || !typed(m.Gives) || !impl.CodeOk(m.Code) {
				return fmt.Sprint("a method of ", k)
			}
		}
		if len(names) > 4 || !slices.IsSorted(names) || len(slices.Compact(names)) != len(c.Methods) {
			return fmt.Sprint("the Names of ", k)
		}
	}
	for k, c := range p.Classes {
		for _, m := range c.Methods {
			for _, up := range rowAbove(p, k) {
				for _, o := range p.Classes[up].Methods {
					if o.Name == m.Name && (o.Gives != m.Gives || fmt.Sprint(o.Args) != fmt.Sprint(m.Args)) {
						return fmt.Sprint("a method of ", k, " and one of ", up)
					}
				}
			}
		}
	}
	for _, m := range p.Classes[0].Methods {
		if m.Name == 0 && len(m.Args) == 0 && m.Gives == -1 {
			return ""
		}
	}
	return "no beginning"
}

// rowAbove are the classes above k, the highest first.
func rowAbove(p impl.Program, k int) []int {
	row := []int{}
	for k = int(p.Classes[k].Super); k >= 0; k = int(p.Classes[k].Super) {
		row = slices.Insert(row, 0, k)
	}
	return row
}

func fieldsIn(p impl.Program, k int) []int64 {
	fields := []int64{}
	for _, up := range append(rowAbove(p, k), k) {
		fields = append(fields, p.Classes[up].Fields...)
	}
	return fields
}

// shownAs prints the lines with a blank behind each number, then takes away those that are left at an end.
func shownAs(p impl.Program) string {
	var text strings.Builder
	for _, c := range p.Classes {
		fmt.Fprintf(&text, "%d %d ", c.Super, len(c.Fields))
		for _, f := range c.Fields {
			fmt.Fprintf(&text, "%d ", f)
		}
		fmt.Fprintf(&text, "%d ", len(c.Methods))
		codes := ""
		for _, m := range c.Methods {
			fmt.Fprintf(&text, "%d %d ", m.Name, len(m.Args))
			for _, a := range m.Args {
				fmt.Fprintf(&text, "%d ", a)
			}
			fmt.Fprintf(&text, "%d %d ", m.Gives, len(m.Code))
			codes += impl.ShowCode(m.Code) + "\n"
		}
		text.WriteString("\n" + codes)
	}
	return strings.ReplaceAll(text.String(), " \n", "\n")
}

func checkMethods(t *testing.T, p impl.Program) {
	t.Helper()
	for _, class := range someClasses(p) {
		for _, name := range someNames() {
			var want impl.Method
			found := false
			if class >= 0 && class < int64(len(p.Classes)) {
				for _, m := range p.Classes[class].Methods {
					if m.Name == name {
						want, found = m, true
					}
				}
			}
			if got, is := impl.MethodOf(p, class, name); is != found || !sameMethod(got, want) {
				t.Errorf("MethodOf(%d, %d) = %v, %v of %v", class, name, got, is, p)
			}
		}
	}
}

// checkRightProgram asks of every function of the chapter what it answers of a program that is right.
func checkRightProgram(t *testing.T, why string, p impl.Program) {
	t.Helper()
	if !impl.ProgramOk(p) {
		t.Errorf("%s: ProgramOk = false", why)
		return
	}
	checkMethods(t, p)
	bulk := int64(0)
	for _, class := range someClasses(p) {
		want := []int64{}
		if class >= 0 && class < int64(len(p.Classes)) {
			want = fieldsIn(p, int(class))
			for _, m := range p.Classes[class].Methods {
				bulk += int64(len(m.Code))
			}
		}
		if got := impl.FieldsOf(p, class); !slices.Equal(got, want) {
			t.Errorf("%s: FieldsOf(%d) = %v, want %v", why, class, got, want)
		}
	}
	if got := impl.Bulk(p); got != bulk {
		t.Errorf("%s: Bulk = %d, want %d", why, got, bulk)
	}
	if got := impl.ShowProgram(p); got != shownAs(p) {
		t.Errorf("%s: ShowProgram = %q, want %q", why, got, shownAs(p))
	}
}

// checkWrongProgram asks that every function of the chapter gives its one fixed answer.
func checkWrongProgram(t *testing.T, why string, p impl.Program) {
	t.Helper()
	if impl.ProgramOk(p) {
		t.Errorf("%s: ProgramOk = true", why)
	}
	for _, class := range someClasses(impl.Program{}) {
		for _, name := range someNames() {
			if got, is := impl.MethodOf(p, class, name); is || !sameMethod(got, impl.Method{}) {
				t.Errorf("%s: MethodOf(%d, %d) = %v, %v", why, class, name, got, is)
			}
		}
		if got := impl.FieldsOf(p, class); len(got) != 0 {
			t.Errorf("%s: FieldsOf(%d) = %v", why, class, got)
		}
	}
	if got := impl.Bulk(p); got != -1 {
		t.Errorf("%s: Bulk = %d", why, got)
	}
	if got := impl.ShowProgram(p); got != "" {
		t.Errorf("%s: ShowProgram = %q", why, got)
	}
}

// oneChange is a single thing that is done to a right program, and whether it is right then.
type oneChange struct {
	why    string
	change func(p *impl.Program)
	right  bool
}

func checkChanges(t *testing.T, of func() impl.Program, changes []oneChange) {
	t.Helper()
	checkRightProgram(t, "unchanged", of())
	for _, c := range changes {
		p := of()
		c.change(&p)
		if got := wrongWith(p) == ""; got != c.right {
			t.Errorf("%s: the test itself says %q", c.why, wrongWith(p))
		}
		if c.right {
			checkRightProgram(t, c.why, p)
		} else {
			checkWrongProgram(t, c.why, p)
		}
	}
}

func TestPromise4HowManyClasses(t *testing.T) {
	for n := range 30 {
		p := lone()
		for k := 1; k < n; k++ {
			p.Classes = append(p.Classes, impl.Class{Super: -1})
		}
		p.Classes = p.Classes[:n]
		if n >= 1 && n <= 6 {
			checkRightProgram(t, fmt.Sprint(n, " classes"), p)
		} else {
			checkWrongProgram(t, fmt.Sprint(n, " classes"), p)
		}
	}
	checkWrongProgram(t, "no list", impl.Program{})
	checkWrongProgram(t, "very many", impl.Program{Classes: make([]impl.Class, 100000)})
}

func TestPromise4Super(t *testing.T) {
	for k := range family().Classes {
		for _, super := range []int64{math.MinInt64, -3, -2, -1, 0, 1, 2, 3, 4, 5, 6, 7, math.MaxInt64} {
			p := family()
			for at := range p.Classes {
				p.Classes[at].Super = -1
			}
			p.Classes[5].Methods = nil
			p.Classes[k].Super = super
			why := fmt.Sprint("class ", k, " below ", super)
			if super >= -1 && super < int64(k) {
				checkRightProgram(t, why, p)
			} else {
				checkWrongProgram(t, why, p)
			}
		}
	}
	checkChanges(t, family, []oneChange{
		{"two above each other", func(p *impl.Program) { p.Classes[2].Super, p.Classes[4].Super = 4, 2 }, false},
		{"the first above itself", func(p *impl.Program) { p.Classes[0].Super = 0 }, false},
		{"the last above itself", func(p *impl.Program) { p.Classes[5].Super = 5 }, false},
		{"below the next one", func(p *impl.Program) { p.Classes[1].Super = 2 }, false},
	})
}

func TestPromise4Fields(t *testing.T) {
	for _, at := range []int{0, 1, 2, 3, 4, 5} {
		for n := range 9 {
			p := family()
			p.Classes[at].Fields = slices.Repeat([]int64{impl.TyInt}, n)
			why := fmt.Sprint("class ", at, " with ", n, " Fields")
			if n <= 4 {
				checkRightProgram(t, why, p)
			} else {
				checkWrongProgram(t, why, p)
			}
		}
		for place := range 4 {
			for _, typ := range []int64{math.MinInt64, -4, impl.TyNone, impl.TyNull, impl.TyInt, 0, 1, 4, 5, 6, 7, math.MaxInt64} {
				p := family()
				p.Classes[at].Fields = slices.Repeat([]int64{impl.TyInt}, 4)
				p.Classes[at].Fields[place] = typ
				why := fmt.Sprint("class ", at, ", field ", place, " of type ", typ)
				if typ >= impl.TyInt && typ < 6 {
					checkRightProgram(t, why, p)
				} else {
					checkWrongProgram(t, why, p)
				}
			}
		}
	}
	checkChanges(t, lone, []oneChange{
		{"a field of its own class", func(p *impl.Program) { p.Classes[0].Fields = []int64{0} }, true},
		{"a field of class 1 of one", func(p *impl.Program) { p.Classes[0].Fields = []int64{1} }, false},
	})
}

func TestPromise4Methods(t *testing.T) {
	named := func(names ...int64) func(p *impl.Program) {
		return func(p *impl.Program) {
			p.Classes[1].Methods = nil
			for _, name := range names {
				p.Classes[1].Methods = append(p.Classes[1].Methods, gives(name, impl.TyInt))
			}
		}
	}
	first := func(names ...int64) func(p *impl.Program) {
		return func(p *impl.Program) {
			for _, name := range names {
				p.Classes[0].Methods = append(p.Classes[0].Methods, gives(name, 0))
			}
		}
	}
	two := func() impl.Program {
		p := lone()
		p.Classes = append(p.Classes, impl.Class{Super: -1})
		return p
	}
	checkChanges(t, two, []oneChange{
		{"none", named(), true},
		{"0", named(0), true},
		{"19", named(19), true},
		{"-1", named(-1), false},
		{"20", named(20), false},
		{"the least", named(math.MinInt64), false},
		{"the greatest", named(math.MaxInt64), false},
		{"-1 and 0", named(-1, 0), false},
		{"19 and 20", named(19, 20), false},
		{"rising", named(0, 1), true},
		{"rising by much", named(0, 19), true},
		{"alike", named(5, 5), false},
		{"falling", named(6, 5), false},
		{"four, rising", named(2, 3, 11, 17), true},
		{"four, the last two alike", named(2, 3, 11, 11), false},
		{"four, the first two alike", named(2, 2, 3, 11), false},
		{"four, alike far apart", named(2, 3, 4, 2), false},
		{"four, falling at the end", named(2, 3, 11, 10), false},
		{"four, falling in the middle", named(2, 11, 3, 12), false},
		{"four, falling at the beginning", named(3, 2, 11, 12), false},
		{"five, rising", named(0, 1, 2, 3, 4), false},
		{"five, not rising", named(0, 1, 2, 3, 3), false},
		{"twenty", named(0, 1, 2, 3, 4, 5, 6, 7, 8, 9, 10, 11, 12, 13, 14, 15, 16, 17, 18, 19), false},
		{"four in class 0", first(1, 2, 3), true},
		{"five in class 0", first(1, 2, 3, 4), false},
		{"0 twice in class 0", first(0), false},
	})
}

func TestPromise4ArgsAndGives(t *testing.T) {
	for n := range 8 {
		p := family()
		p.Classes[1].Methods[0].Args = slices.Repeat([]int64{impl.TyInt}, n)
		if n <= 3 {
			checkRightProgram(t, fmt.Sprint(n, " Args"), p)
		} else {
			checkWrongProgram(t, fmt.Sprint(n, " Args"), p)
		}
	}
	for _, typ := range []int64{math.MinInt64, -4, impl.TyNone, impl.TyNull, impl.TyInt, 0, 1, 4, 5, 6, 7, math.MaxInt64} {
		right := typ >= impl.TyInt && typ < 6
		changes := []oneChange{{fmt.Sprint("Gives ", typ), func(p *impl.Program) { p.Classes[1].Methods[0].Gives = typ }, right}}
		for place := range 3 {
			changes = append(changes, oneChange{fmt.Sprint("Arg ", place, " of type ", typ), func(p *impl.Program) { p.Classes[4].Methods[1].Args[place] = typ }, right})
		}
		checkChanges(t, family, changes)
	}
	checkChanges(t, lone, []oneChange{
		{"Gives class 1 of one", func(p *impl.Program) { p.Classes[0].Methods = append(p.Classes[0].Methods, gives(1, 1)) }, false},
		{"Gives class 0 of one", func(p *impl.Program) { p.Classes[0].Methods = append(p.Classes[0].Methods, gives(1, 0)) }, true},
		{"takes class 1 of one", func(p *impl.Program) { p.Classes[0].Methods = append(p.Classes[0].Methods, gives(1, 0, 1)) }, false},
	})
}

func TestPromise4TheSameAsAbove(t *testing.T) {
	below := func(class int, m impl.Method) func(p *impl.Program) {
		return func(p *impl.Program) { p.Classes[class].Methods = append(p.Classes[class].Methods, m) }
	}
	// Class 0 has 3 (TyInt, 0, to 1), class 2 is below it, 3 below that, 4 below that, 1 below none.
	row := func() impl.Program {
		p := lone()
		p.Classes[0].Methods = append(p.Classes[0].Methods, gives(3, 1, impl.TyInt, 0))
		for _, super := range []int64{-1, 0, 2, 3} {
			p.Classes = append(p.Classes, impl.Class{Super: super})
		}
		return p
	}
	var changes []oneChange
	for class, where := range map[int]string{2: "one below", 3: "two below", 4: "three below"} {
		for _, c := range []oneChange{
			{"the same", below(class, gives(3, 1, impl.TyInt, 0)), true},
			{"another Gives", below(class, gives(3, 0, impl.TyInt, 0)), false},
			{"a Gives below that above", below(class, gives(3, 2, impl.TyInt, 0)), false},
			{"Gives TyInt", below(class, gives(3, impl.TyInt, impl.TyInt, 0)), false},
			{"another first Arg", below(class, gives(3, 1, 0, 0)), false},
			{"another last Arg", below(class, gives(3, 1, impl.TyInt, 1)), false},
			{"a last Arg below that above", below(class, gives(3, 1, impl.TyInt, 2)), false},
			{"Args changed about", below(class, gives(3, 1, 0, impl.TyInt)), false},
			{"one Arg less", below(class, gives(3, 1, impl.TyInt)), false},
			{"one Arg more", below(class, gives(3, 1, impl.TyInt, 0, 0)), false},
			{"no Args", below(class, gives(3, 1)), false},
			{"another Name", below(class, gives(4, 0, 1, 1)), true},
			{"another beginning", below(class, gives(0, impl.TyInt)), true},
			{"a beginning with Args", below(class, gives(0, impl.TyInt, impl.TyInt)), false},
			{"a beginning that Gives another thing", below(class, gives(0, 0)), false},
		} {
			c.why = where + ": " + c.why
			changes = append(changes, c)
		}
	}
	changes = append(changes,
		oneChange{"below none: another Gives", below(1, gives(3, 0, impl.TyInt, 0)), true},
		oneChange{"below none: other Args", below(1, gives(3, 1)), true},
		oneChange{"other code", func(p *impl.Program) {
			below(3, gives(3, 1, impl.TyInt, 0))(p)
			p.Classes[3].Methods[0].Code = []impl.Insn{{Op: impl.OpLoad, A: 1}, {Op: impl.OpDup}, {Op: impl.OpGive}}
		}, true},
		oneChange{"the same between, another one below", func(p *impl.Program) {
			below(2, gives(3, 1, impl.TyInt, 0))(p)
			below(3, gives(3, 1, impl.TyInt, 1))(p)
		}, false},
		oneChange{"another one between, the same below", func(p *impl.Program) {
			below(2, gives(3, 1, impl.TyInt, 1))(p)
			below(3, gives(3, 1, impl.TyInt, 0))(p)
		}, false},
		oneChange{"two below one that has none of it", func(p *impl.Program) {
			p.Classes[3].Super, p.Classes[4].Super = 2, 2
			below(3, gives(9, 1, 1))(p)
			below(4, gives(9, 0, 0))(p)
		}, true},
		oneChange{"below one that is in no row", func(p *impl.Program) {
			p.Classes[3].Super = 1
			below(3, gives(3, 0))(p)
		}, true},
	)
	checkChanges(t, row, changes)
}

func TestPromise4WhereItBegins(t *testing.T) {
	second := func() impl.Program {
		p := lone()
		p.Classes = append(p.Classes, impl.Class{Super: -1, Methods: []impl.Method{begins()}})
		return p
	}
	checkChanges(t, second, []oneChange{
		{"no method", func(p *impl.Program) { p.Classes[0].Methods = nil }, false},
		{"only others", func(p *impl.Program) { p.Classes[0].Methods = []impl.Method{gives(1, impl.TyInt), gives(2, 0)} }, false},
		{"with an Arg", func(p *impl.Program) { p.Classes[0].Methods[0].Args = []int64{impl.TyInt} }, false},
		{"with an Arg of a class", func(p *impl.Program) { p.Classes[0].Methods[0].Args = []int64{0} }, false},
		{"Gives its class", func(p *impl.Program) { p.Classes[0].Methods[0].Gives = 0 }, false},
		{"Gives another class", func(p *impl.Program) { p.Classes[0].Methods[0].Gives = 1 }, false},
		{"with no list of Args", func(p *impl.Program) { p.Classes[0].Methods[0].Args = nil }, true},
		{"with an empty list of Args", func(p *impl.Program) { p.Classes[0].Methods[0].Args = []int64{} }, true},
		{"with others behind", func(p *impl.Program) { p.Classes[0].Methods = append(p.Classes[0].Methods, gives(1, 1, 1)) }, true},
		{"only class 0 has it", func(p *impl.Program) { p.Classes[1].Methods = nil }, true},
		{"class 1 has another one", func(p *impl.Program) { p.Classes[1].Methods[0] = gives(0, 1, 0) }, true},
	})
}

func TestPromise4Code(t *testing.T) {
	give := impl.Insn{Op: impl.OpGive}
	for _, at := range [][2]int{{0, 0}, {0, 2}, {1, 0}, {4, 3}, {5, 0}} {
		with := func(code []impl.Insn) func(p *impl.Program) {
			return func(p *impl.Program) { p.Classes[at[0]].Methods[at[1]].Code = code }
		}
		checkChanges(t, family, []oneChange{
			{"no list", with(nil), false},
			{"empty", with([]impl.Insn{}), false},
			{"one step", with([]impl.Insn{give}), true},
			{"just 40 steps", with(slices.Repeat([]impl.Insn{give}, 40)), true},
			{"41 steps", with(slices.Repeat([]impl.Insn{give}, 41)), false},
			{"a jump to the last one", with([]impl.Insn{{Op: impl.OpJump, A: 1}, give}), true},
			{"a jump behind the last one", with([]impl.Insn{{Op: impl.OpJump, A: 2}, give}), false},
			{"a step that is none", with([]impl.Insn{give, {}}), false},
			{"a class that no program has", with([]impl.Insn{{Op: impl.OpNew, A: 6}, give}), false},
			{"it never ends", with([]impl.Insn{{Op: impl.OpJump}}), true},
			{"it ends behind the last one", with([]impl.Insn{{Op: impl.OpAdd}}), true},
		})
	}
	for _, i := range wrongInsns() {
		p := lone()
		p.Classes[0].Methods[0].Code = []impl.Insn{give, i}
		checkWrongProgram(t, fmt.Sprint("the step ", i), p)
	}
	// Classes, fields and names in a code are not looked at.
	for _, c := range stepCases() {
		if !goes(c.insn) || c.insn.A == 0 {
			p := lone()
			p.Classes[0].Methods[0].Code = []impl.Insn{c.insn}
			checkRightProgram(t, "the step "+c.text+" alone", p)
		}
	}
}

func TestPromise4MethodOf(t *testing.T) {
	p := family()
	for _, c := range []struct {
		class, name int64
		args        []int64
		gives       int64
		is          bool
	}{
		{0, 0, nil, impl.TyInt, true},
		{0, 3, []int64{impl.TyInt, 0}, 1, true},
		{0, 19, nil, 0, true},
		{2, 7, []int64{2}, 2, true},
		{4, 4, []int64{1, 2, 3}, 3, true},
		{5, 0, []int64{5}, 5, true},
		{2, 3, nil, 0, false},
		{2, 19, nil, 0, false},
		{4, 0, nil, 0, false},
		{3, 1, nil, 0, false},
		{0, 7, nil, 0, false},
		{1, 0, nil, 0, false},
		{6, 0, nil, 0, false},
		{-1, 0, nil, 0, false},
		{0, -1, nil, 0, false},
		{0, 20, nil, 0, false},
	} {
		got, is := impl.MethodOf(p, c.class, c.name)
		if is != c.is || !slices.Equal(got.Args, c.args) || got.Gives != c.gives || is && (got.Name != c.name || len(got.Code) != 2) {
			t.Errorf("MethodOf(%d, %d) = %v, %v", c.class, c.name, got, is)
		}
		if !is && !sameMethod(got, impl.Method{}) {
			t.Errorf("MethodOf(%d, %d) = %v, not zero", c.class, c.name, got)
		}
	}
	checkMethods(t, p)
}

func TestPromise4FieldsOf(t *testing.T) {
	p := family()
	for class, want := range map[int64][]int64{
		0: {-1, 5}, 1: {}, 2: {-1, 5, 2}, 3: {4, -1, 0, 1}, 4: {-1, 5, 2, -1, -1, 4}, 5: {}, 6: {}, 7: {}, -1: {}, -2: {}, math.MaxInt64: {}, math.MinInt64: {},
	} {
		if got := impl.FieldsOf(p, class); !slices.Equal(got, want) {
			t.Errorf("FieldsOf(%d) = %v, want %v", class, got, want)
		}
	}
	full := lone()
	full.Classes[0].Fields = []int64{0, 1, 2, 3}
	want := []int64{0, 1, 2, 3}
	for k := int64(1); k < 6; k++ {
		own := []int64{k, 5 - k, impl.TyInt, k}
		full.Classes = append(full.Classes, impl.Class{Super: k - 1, Fields: own})
		want = append(want, own...)
	}
	if got := impl.FieldsOf(full, 5); len(got) != 24 || !slices.Equal(got, want) {
		t.Errorf("FieldsOf the sixth in a row = %v, want %v", got, want)
	}
}

func TestPromise4Bulk(t *testing.T) {
	if got := impl.Bulk(lone()); got != 2 {
		t.Errorf("Bulk of the least = %d", got)
	}
	if got := impl.Bulk(family()); got != 22 {
		t.Errorf("Bulk of the family = %d", got)
	}
	var p impl.Program
	for k := range 6 {
		c := impl.Class{Super: int64(k) - 1}
		for name := range int64(4) {
			m := begins()
			m.Name, m.Code = name, slices.Repeat([]impl.Insn{{Op: impl.OpGive}}, 40)
			c.Methods = append(c.Methods, m)
		}
		p.Classes = append(p.Classes, c)
	}
	if got := impl.Bulk(p); got != 6*4*40 {
		t.Errorf("Bulk of the greatest = %d", got)
	}
	p.Classes[3].Methods[2].Code = p.Classes[3].Methods[2].Code[:1]
	if got := impl.Bulk(p); got != 6*4*40-39 {
		t.Errorf("Bulk with one shorter = %d", got)
	}
}

func TestPromise4ShowProgram(t *testing.T) {
	with := func(classes ...impl.Class) impl.Program {
		first := impl.Class{Super: -1, Methods: []impl.Method{{Gives: impl.TyInt, Code: codeOf(t, "a7 s a-1 t")}}}
		return impl.Program{Classes: append([]impl.Class{first}, classes...)}
	}
	for _, c := range []struct {
		p     impl.Program
		lines []string
	}{
		{lone(), []string{"-1 0 1 0 0 -1 2", "a0 t"}},
		{with(), []string{"-1 0 1 0 0 -1 4", "a7 s a-1 t"}},
		{with(impl.Class{Super: -1}), []string{"-1 0 1 0 0 -1 4", "a7 s a-1 t", "-1 0 0"}},
		{with(impl.Class{Super: 0, Fields: []int64{impl.TyInt, 0, 1}}), []string{"-1 0 1 0 0 -1 4", "a7 s a-1 t", "0 3 -1 0 1 0"}},
		{with(impl.Class{Super: 0, Methods: []impl.Method{
			{Name: 12, Args: []int64{1, impl.TyInt, 0}, Gives: 1, Code: codeOf(t, "m t")},
			{Name: 19, Gives: 0, Code: codeOf(t, "b0 t")},
		}}, impl.Class{Super: 1, Fields: []int64{2}}), []string{"-1 0 1 0 0 -1 4", "a7 s a-1 t", "0 0 2 12 3 1 -1 0 1 2 19 0 0 2", "m t", "b0 t", "1 1 2 0"}},
		{family(), []string{
			"-1 2 -1 5 3 0 0 -1 2 3 2 -1 0 1 2 19 0 0 2", "a0 t", "m t", "m t",
			"-1 0 1 1 0 -1 2", "m t",
			"0 1 2 2 0 0 -1 2 7 1 2 2 2", "m t", "m t",
			"1 4 4 -1 0 1 0",
			"2 3 -1 -1 4 4 3 2 -1 0 1 2 4 3 1 2 3 3 2 7 1 2 2 2 8 0 5 2", "m t", "m t", "m t", "m t",
			"-1 0 1 0 1 5 5 2", "m t",
		}},
	} {
		if got, want := impl.ShowProgram(c.p), strings.Join(c.lines, "\n")+"\n"; got != want {
			t.Errorf("ShowProgram = %q, want %q", got, want)
		}
	}
}

// drawnProgram is right about one time in three, else wrong in one of many ways: by a fixed row of numbers.
func drawnProgram(seed uint64) impl.Program {
	next := func(below int) int {
		seed = seed*6364136223846793005 + 1442695040888963407
		return int(seed>>33) % below
	}
	seldom := func(often int64, otherwise ...int64) int64 {
		if next(60) > 0 {
			return often
		}
		return otherwise[next(len(otherwise))]
	}
	n := int(seldom(int64(1+next(6)), 0, 7))
	typ := func() int64 { return seldom(int64(next(n+1)-1), int64(n), impl.TyNull, impl.TyNone) }
	p := lone()
	p.Classes[0].Super = seldom(-1, 0, 1, -2)
	for k := 1; k < n; k++ {
		p.Classes = append(p.Classes, impl.Class{Super: seldom(int64(next(k+1)-1), int64(k), int64(k+1), -2)})
	}
	p.Classes = p.Classes[:n]
	for k := range p.Classes {
		c := &p.Classes[k]
		for range seldom(int64(next(5)), 5) {
			c.Fields = append(c.Fields, typ())
		}
		for name := seldom(int64(len(c.Methods)+next(3)), 0, -1); next(4) > 0; name += seldom(int64(1+next(7)), 0, -1) {
			m := gives(name, name%int64(n), slices.Repeat([]int64{seldom(impl.TyInt, 0)}, int(name+4)%4)...)
			if name == 0 {
				m = begins()
			}
			m.Gives = seldom(m.Gives, typ(), impl.TyNull)
			m.Code = m.Code[:seldom(2, 1, 0)]
			c.Methods = append(c.Methods, m)
		}
	}
	return p
}

func TestPromise4DrawnPrograms(t *testing.T) {
	right, wrong := 0, map[string]bool{}
	for seed := range uint64(8000) {
		p := drawnProgram(seed)
		if why := wrongWith(p); why != "" {
			checkWrongProgram(t, why, p)
			wrong[why] = true
			continue
		}
		checkRightProgram(t, fmt.Sprint("drawn by ", seed), p)
		right++
	}
	if right < 500 || len(wrong) < 15 {
		t.Errorf("only %d right ones, wrong ones by %v", right, wrong)
	}
}

func TestPromise4BeginsWithThoseAbove(t *testing.T) {
	rows := 0
	for seed := range uint64(8000) {
		p := drawnProgram(seed)
		if !impl.ProgramOk(p) {
			continue
		}
		for k, c := range p.Classes {
			got, above := impl.FieldsOf(p, int64(k)), []int64{}
			if c.Super >= 0 {
				above = impl.FieldsOf(p, c.Super)
				rows += len(above)
			}
			if len(got) != len(above)+len(c.Fields) || !slices.Equal(got[:len(above)], above) || !slices.Equal(got[len(above):], c.Fields) {
				t.Fatalf("FieldsOf(%d) = %v, above %v, of %v", k, got, above, p)
			}
		}
	}
	if rows < 1000 {
		t.Errorf("only %d fields above", rows)
	}
}

func TestPromise21ProgramAnswersAreNewMemory(t *testing.T) {
	p, kept := family(), family()
	for class := range int64(6) {
		want := fieldsIn(kept, int(class))
		got := impl.FieldsOf(p, class)
		got = got[:cap(got)]
		for k := range got {
			got[k] = 77
		}
		if again := impl.FieldsOf(p, class); !slices.Equal(again, want) || !sameProgram(p, kept) {
			t.Fatalf("FieldsOf(%d) again = %v, of %v", class, again, p)
		}
		for _, name := range someNames() {
			m, _ := impl.MethodOf(p, class, name)
			held := twinMethod(m)
			args, code := m.Args[:cap(m.Args)], m.Code[:cap(m.Code)]
			for k := range args {
				args[k] = 77
			}
			for k := range code {
				code[k] = impl.Insn{Op: 77, A: 77, B: 77}
			}
			if again, _ := impl.MethodOf(p, class, name); !sameMethod(again, held) || !sameProgram(p, kept) {
				t.Fatalf("MethodOf(%d, %d) again = %v, of %v", class, name, again, p)
			}
		}
	}
	one, two := impl.FieldsOf(p, 4), impl.FieldsOf(p, 4)
	one[0] = 99
	if two[0] != impl.TyInt {
		t.Error("two answers share memory")
	}
	none := impl.FieldsOf(p, -1)
	_ = append(none, 5, 6, 7)
	if got := impl.FieldsOf(p, -1); len(got) != 0 {
		t.Errorf("FieldsOf nothing again = %v", got)
	}
}

// roomy gives each list of a program spare room with a mark in it; the lists that it answers are the whole ones.
func roomy(p impl.Program) (impl.Program, []any) {
	p = twin(p)
	var whole []any
	for k := range p.Classes {
		c := &p.Classes[k]
		for j := range c.Methods {
			m := &c.Methods[j]
			args := append(slices.Clone(m.Args), 55, 55, 55, 55)
			code := append(slices.Clone(m.Code), impl.Insn{Op: 55}, impl.Insn{Op: 55})
			m.Args, m.Code = args[:len(m.Args)], code[:len(m.Code)]
			whole = append(whole, args, code)
		}
		fields := append(slices.Clone(c.Fields), 55, 55, 55, 55, 55)
		methods := append(slices.Clone(c.Methods), impl.Method{Name: 55}, impl.Method{Name: 55})
		c.Fields, c.Methods = fields[:len(c.Fields)], methods[:len(c.Methods)]
		whole = append(whole, fields, methods)
	}
	classes := append(slices.Clone(p.Classes), impl.Class{Super: 55}, impl.Class{Super: 55})
	p.Classes = classes[:len(p.Classes)]
	return p, append(whole, classes)
}

func TestPromise21ProgramLeavesArguments(t *testing.T) {
	programs := []impl.Program{{}, lone(), family()}
	for seed := range uint64(300) {
		programs = append(programs, drawnProgram(seed))
	}
	for _, plain := range programs {
		p, whole := roomy(plain)
		_, want := roomy(plain)
		impl.ProgramOk(p)
		impl.Bulk(p)
		impl.ShowProgram(p)
		for _, class := range someClasses(p) {
			impl.FieldsOf(p, class)
			for _, name := range someNames() {
				impl.MethodOf(p, class, name)
			}
		}
		if !sameProgram(p, plain) || !reflect.DeepEqual(whole, want) {
			t.Fatalf("an argument, or the room behind it, is changed: %v", plain)
		}
	}
}
