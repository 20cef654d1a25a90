package tests

import (
	"fmt"
	"math"
	"reflect"
	"slices"
	"testing"

	"loop.example/g00334/impl"
)

// tree has a class for each Super; each class of owners[name] has a method of this name. It is right where the Supers are.
func tree(supers []int64, owners map[int64][]int64) impl.Program {
	p := impl.Program{}
	for k, super := range supers {
		c := impl.Class{Super: super}
		for name := range int64(20) {
			if name == 0 && k == 0 || slices.Contains(owners[name], int64(k)) {
				c.Methods = append(c.Methods, gives(name, impl.TyInt))
			}
		}
		p.Classes = append(p.Classes, c)
	}
	return p
}

// row has six classes, each below the one ahead of it.
func row() impl.Program { return tree([]int64{-1, 0, 1, 2, 3, 4}, nil) }

// underIn is a table, filled until nothing is to be added: is the one under the other?
func underIn(p impl.Program) [][]bool {
	table := make([][]bool, len(p.Classes))
	for k := range table {
		table[k] = make([]bool, len(p.Classes))
		table[k][k] = true
		if super := p.Classes[k].Super; super >= 0 {
			table[k][super] = true
		}
	}
	for middle := range table {
		for a := range table {
			for b := range table {
				table[a][b] = table[a][b] || table[a][middle] && table[middle][b]
			}
		}
	}
	return table
}

// leastIn is the one of some classes that is under all of them; -1 where there is none.
func leastIn(table [][]bool, some []int64) int64 {
	for _, a := range some {
		if !slices.ContainsFunc(some, func(b int64) bool { return !table[a][b] }) {
			return a
		}
	}
	return -1
}

// classesWhere are those of which is says so, rising.
func classesWhere(table [][]bool, is func(k int64) bool) []int64 {
	some := []int64{}
	for k := range int64(len(table)) {
		if is(k) {
			some = append(some, k)
		}
	}
	return some
}

func ownsName(p impl.Program, class int64, name int64) bool {
	return slices.ContainsFunc(p.Classes[class].Methods, func(m impl.Method) bool { return m.Name == name })
}

func isThere(p impl.Program, class int64) bool { return class >= 0 && class < int64(len(p.Classes)) }

// selectedIn is the lowest of those above the class that have the name.
func selectedIn(p impl.Program, table [][]bool, class int64, name int64) int64 {
	return leastIn(table, classesWhere(table, func(k int64) bool { return table[class][k] && ownsName(p, k, name) }))
}

// checkPairs asks AboveOf, BelowOf, Under and Lowest of each class, there or not.
func checkPairs(t *testing.T, p impl.Program, classes []int64) {
	t.Helper()
	table := underIn(p)
	for _, a := range classes {
		above, below := []int64{}, []int64{}
		if isThere(p, a) {
			above = classesWhere(table, func(k int64) bool { return table[a][k] })
			slices.Reverse(above)
			below = classesWhere(table, func(k int64) bool { return table[k][a] })
		}
		if got := impl.AboveOf(p, a); !slices.Equal(got, above) {
			t.Errorf("AboveOf(%d) = %v, want %v, of %v", a, got, above, p)
		}
		if got := impl.BelowOf(p, a); !slices.Equal(got, below) {
			t.Errorf("BelowOf(%d) = %v, want %v, of %v", a, got, below, p)
		}
		for _, b := range classes {
			under, lowest := false, int64(-1)
			if isThere(p, a) && isThere(p, b) {
				under = table[a][b]
				lowest = leastIn(table, classesWhere(table, func(k int64) bool { return table[a][k] && table[b][k] }))
			}
			if got := impl.Under(p, a, b); got != under {
				t.Errorf("Under(%d, %d) = %v, of %v", a, b, got, p)
			}
			if got := impl.Lowest(p, a, b); got != lowest {
				t.Errorf("Lowest(%d, %d) = %d, want %d, of %v", a, b, got, lowest, p)
			}
		}
	}
}

// checkNames asks Selected and Targets of each class and each name, there or not.
func checkNames(t *testing.T, p impl.Program, classes []int64, names []int64) {
	t.Helper()
	table := underIn(p)
	for _, class := range classes {
		for _, name := range names {
			selected, targets := int64(-1), []int64{}
			if isThere(p, class) {
				selected = selectedIn(p, table, class, name)
				targets = classesWhere(table, func(k int64) bool {
					return slices.ContainsFunc(classesWhere(table, func(b int64) bool { return table[b][class] }), func(b int64) bool { return selectedIn(p, table, b, name) == k })
				})
			}
			if got := impl.Selected(p, class, name); got != selected {
				t.Errorf("Selected(%d, %d) = %d, want %d, of %v", class, name, got, selected, p)
			}
			if got := impl.Targets(p, class, name); !slices.Equal(got, targets) {
				t.Errorf("Targets(%d, %d) = %v, want %v, of %v", class, name, got, targets, p)
			}
		}
	}
}

// checkNoHierarchy asks that every function of the chapter gives its one fixed answer.
func checkNoHierarchy(t *testing.T, why string, p impl.Program) {
	t.Helper()
	classes := someClasses(impl.Program{})
	for _, a := range classes {
		if got := impl.AboveOf(p, a); len(got) != 0 {
			t.Errorf("%s: AboveOf(%d) = %v", why, a, got)
		}
		if got := impl.BelowOf(p, a); len(got) != 0 {
			t.Errorf("%s: BelowOf(%d) = %v", why, a, got)
		}
		for _, b := range classes {
			if impl.Under(p, a, b) {
				t.Errorf("%s: Under(%d, %d)", why, a, b)
			}
			if got := impl.Lowest(p, a, b); got != -1 {
				t.Errorf("%s: Lowest(%d, %d) = %d", why, a, b, got)
			}
		}
		for _, name := range []int64{math.MinInt64, -1, 0, 1, 3, 7, 19, 20, math.MaxInt64} {
			if got := impl.Selected(p, a, name); got != -1 {
				t.Errorf("%s: Selected(%d, %d) = %d", why, a, name, got)
			}
			if got := impl.Targets(p, a, name); len(got) != 0 {
				t.Errorf("%s: Targets(%d, %d) = %v", why, a, name, got)
			}
		}
	}
}

func TestPromise5AboveOf(t *testing.T) {
	for _, c := range []struct {
		why   string
		p     impl.Program
		class int64
		want  []int64
	}{
		{"the only one", lone(), 0, []int64{0}},
		{"the first, none above", family(), 0, []int64{0}},
		{"the second, none above", family(), 1, []int64{1}},
		{"the last, none above", family(), 5, []int64{5}},
		{"one above", family(), 2, []int64{2, 0}},
		{"one above, another row", family(), 3, []int64{3, 1}},
		{"two above", family(), 4, []int64{4, 2, 0}},
		{"five above", row(), 5, []int64{5, 4, 3, 2, 1, 0}},
		{"before the first", family(), -1, nil},
		{"as many as there are", family(), 6, nil},
		{"as many as there are of one", lone(), 1, nil},
		{"far beyond", family(), 1 << 40, nil},
		{"the least number", family(), math.MinInt64, nil},
		{"the greatest number", family(), math.MaxInt64, nil},
	} {
		if got := impl.AboveOf(c.p, c.class); !slices.Equal(got, c.want) {
			t.Errorf("%s: AboveOf(%d) = %v, want %v", c.why, c.class, got, c.want)
		}
	}
}

func TestPromise5Under(t *testing.T) {
	for _, c := range []struct {
		why  string
		a, b int64
		want bool
	}{
		{"itself", 2, 2, true},
		{"itself, the first", 0, 0, true},
		{"itself, alone", 5, 5, true},
		{"one above", 2, 0, true},
		{"one two above", 4, 0, true},
		{"one below", 0, 2, false},
		{"one two below", 0, 4, false},
		{"nothing to do with each other", 4, 1, false},
		{"nothing to do with each other, both lowest", 3, 4, false},
		{"alone", 0, 5, false},
		{"the other is -1", 0, -1, false},
		{"the one is -1", -1, 0, false},
		{"both are -1", -1, -1, false},
		{"the other is not there", 0, 6, false},
		{"the one is not there", 6, 0, false},
		{"both are not there", 6, 6, false},
		{"both the least number", math.MinInt64, math.MinInt64, false},
		{"both the greatest number", math.MaxInt64, math.MaxInt64, false},
	} {
		if got := impl.Under(family(), c.a, c.b); got != c.want {
			t.Errorf("%s: Under(%d, %d) = %v", c.why, c.a, c.b, got)
		}
	}
}

func TestPromise5Lowest(t *testing.T) {
	forked := tree([]int64{-1, 0, 1, 1, 2, 3}, nil)
	for _, c := range []struct {
		why  string
		p    impl.Program
		a, b int64
		want int64
	}{
		{"two alike", family(), 4, 4, 4},
		{"two alike, alone", family(), 5, 5, 5},
		{"one and one above", family(), 2, 0, 0},
		{"one above and one", family(), 0, 2, 0},
		{"one and one two above", family(), 4, 0, 0},
		{"one two above and one", family(), 0, 4, 0},
		{"a common one above, not the highest", forked, 4, 5, 1},
		{"the same, changed about", forked, 5, 4, 1},
		{"at unlike depths", forked, 2, 5, 1},
		{"the same, changed about", forked, 5, 2, 1},
		{"the one right below", forked, 5, 3, 3},
		{"none", family(), 4, 3, -1},
		{"none, changed about", family(), 3, 4, -1},
		{"one is alone", family(), 5, 0, -1},
		{"-1 and one", family(), -1, 0, -1},
		{"one and -1", family(), 0, -1, -1},
		{"both -1", family(), -1, -1, -1},
		{"one not there", family(), 0, 6, -1},
		{"the other not there", family(), 6, 0, -1},
		{"both not there", family(), 6, 6, -1},
		{"both ends", family(), math.MinInt64, math.MaxInt64, -1},
		{"both the greatest", family(), math.MaxInt64, math.MaxInt64, -1},
	} {
		if got := impl.Lowest(c.p, c.a, c.b); got != c.want {
			t.Errorf("%s: Lowest(%d, %d) = %d, want %d", c.why, c.a, c.b, got, c.want)
		}
	}
}

func TestPromise5Selected(t *testing.T) {
	for _, c := range []struct {
		why         string
		class, name int64
		want        int64
	}{
		{"its own", 4, 4, 4},
		{"its own, the last", 4, 8, 4},
		{"its own, and one above has it", 4, 7, 4},
		{"its own, and one two above has it", 4, 3, 4},
		{"its own, the beginning's", 0, 0, 0},
		{"its own, in a row of its own", 5, 0, 5},
		{"only one above has it", 2, 3, 0},
		{"only one two above has it", 4, 19, 0},
		{"two above have it", 4, 0, 2},
		{"only those below have it", 0, 7, -1},
		{"only one below has it", 2, 4, -1},
		{"nobody has it", 4, 12, -1},
		{"only another row has it", 3, 0, -1},
		{"name -1", 4, -1, -1},
		{"name 20", 4, 20, -1},
		{"the least name", 4, math.MinInt64, -1},
		{"the greatest name", 4, math.MaxInt64, -1},
		{"class -1", -1, 0, -1},
		{"as many as there are", 6, 0, -1},
		{"the least class", math.MinInt64, 0, -1},
		{"the greatest class", math.MaxInt64, 0, -1},
	} {
		if got := impl.Selected(family(), c.class, c.name); got != c.want {
			t.Errorf("%s: Selected(%d, %d) = %d, want %d", c.why, c.class, c.name, got, c.want)
		}
	}
}

func TestPromise5BelowOf(t *testing.T) {
	for _, c := range []struct {
		why   string
		p     impl.Program
		class int64
		want  []int64
	}{
		{"the only one", lone(), 0, []int64{0}},
		{"the highest", family(), 0, []int64{0, 2, 4}},
		{"the highest of another row", family(), 1, []int64{1, 3}},
		{"in the middle", family(), 2, []int64{2, 4}},
		{"none below", family(), 4, []int64{4}},
		{"alone", family(), 5, []int64{5}},
		{"all", row(), 0, []int64{0, 1, 2, 3, 4, 5}},
		{"half of them", row(), 3, []int64{3, 4, 5}},
		{"the last of all", row(), 5, []int64{5}},
		{"-1", family(), -1, nil},
		{"as many as there are", family(), 6, nil},
		{"far beyond", family(), 1 << 40, nil},
		{"the least number", family(), math.MinInt64, nil},
		{"the greatest number", family(), math.MaxInt64, nil},
	} {
		if got := impl.BelowOf(c.p, c.class); !slices.Equal(got, c.want) {
			t.Errorf("%s: BelowOf(%d) = %v, want %v", c.why, c.class, got, c.want)
		}
	}
}

func TestPromise5Targets(t *testing.T) {
	fan := tree([]int64{-1, 0, 0, 1, 0, 3}, map[int64][]int64{7: {0, 1, 3}, 8: {1, 4}, 9: {5}})
	for _, c := range []struct {
		why         string
		p           impl.Program
		class, name int64
		want        []int64
	}{
		{"its own, none below", family(), 4, 4, []int64{4}},
		{"its own, one below has it", family(), 2, 7, []int64{2, 4}},
		{"its own, nobody below has it", family(), 0, 19, []int64{0}},
		{"only those below have it", family(), 0, 7, []int64{2, 4}},
		{"only one two below has it", family(), 0, 8, []int64{4}},
		{"one above has it, one below too", family(), 2, 3, []int64{0, 4}},
		{"one above has it, nobody below", family(), 4, 19, []int64{0}},
		{"two above have it", family(), 4, 0, []int64{2}},
		{"another row's", family(), 3, 1, []int64{1}},
		{"one behind the other selects a lesser one", fan, 0, 7, []int64{0, 1, 3}},
		{"those below in two branches", fan, 0, 8, []int64{1, 4}},
		{"one branch", fan, 1, 8, []int64{1}},
		{"nobody in the branch", fan, 2, 8, nil},
		{"only the lowest", fan, 0, 9, []int64{5}},
		{"nobody has it", family(), 0, 12, nil},
		{"only another row has it", family(), 1, 0, nil},
		{"name -1", family(), 0, -1, nil},
		{"name 20", family(), 0, 20, nil},
		{"the least name", family(), 0, math.MinInt64, nil},
		{"the greatest name", family(), 0, math.MaxInt64, nil},
		{"class -1", family(), -1, 0, nil},
		{"as many as there are", family(), 6, 0, nil},
		{"the least class", family(), math.MinInt64, 0, nil},
		{"the greatest class", family(), math.MaxInt64, 0, nil},
	} {
		if got := impl.Targets(c.p, c.class, c.name); !slices.Equal(got, c.want) {
			t.Errorf("%s: Targets(%d, %d) = %v, want %v", c.why, c.class, c.name, got, c.want)
		}
	}
}

// everyTree are the Supers of all right programs of n classes.
func everyTree(n int) [][]int64 {
	if n == 0 {
		return [][]int64{{}}
	}
	var all [][]int64
	for _, shorter := range everyTree(n - 1) {
		for super := int64(-1); super < int64(n-1); super++ {
			all = append(all, append(slices.Clone(shorter), super))
		}
	}
	return all
}

// TestPromise5EveryTree goes through all rows of Supers there are, and all ways to have a name or not.
func TestPromise5EveryTree(t *testing.T) {
	for n := 1; n <= 6; n++ {
		for _, supers := range everyTree(n) {
			bare := tree(supers, nil)
			checkPairs(t, bare, someClasses(bare))
			for set := range 1 << n {
				owners := classesWhere(underIn(bare), func(k int64) bool { return set>>k&1 == 1 })
				checkNames(t, tree(supers, map[int64][]int64{7: owners}), []int64{0, 1, 2, 3, 4, 5, 6}, []int64{7})
			}
		}
	}
}

func TestPromise5DrawnPrograms(t *testing.T) {
	right, wrong := 0, 0
	for seed := range uint64(3000) {
		p := drawnProgram(seed)
		if why := wrongWith(p); why != "" {
			checkNoHierarchy(t, why, p)
			wrong++
			continue
		}
		checkPairs(t, p, someClasses(p))
		checkNames(t, p, someClasses(p), someNames())
		right++
	}
	if right < 300 || wrong < 300 {
		t.Errorf("only %d right ones, %d wrong ones", right, wrong)
	}
}

// TestPromise5InItsOwnWords asks the functions about each other, as the promise is told.
func TestPromise5InItsOwnWords(t *testing.T) {
	found, selected := 0, 0
	for seed := range uint64(8000) {
		p := drawnProgram(seed)
		if !impl.ProgramOk(p) {
			continue
		}
		n := int64(len(p.Classes))
		for a := range n {
			for b := range n {
				lowest := impl.Lowest(p, a, b)
				if lowest >= 0 {
					found++
					if !impl.Under(p, a, lowest) || !impl.Under(p, b, lowest) {
						t.Fatalf("Lowest(%d, %d) = %d is not above both, of %v", a, b, lowest, p)
					}
				}
				for k := range n {
					if impl.Under(p, a, k) && impl.Under(p, b, k) && !impl.Under(p, lowest, k) {
						t.Fatalf("Lowest(%d, %d) = %d is not below %d, of %v", a, b, lowest, k, p)
					}
				}
			}
			for _, name := range someNames() {
				targets := impl.Targets(p, a, name)
				for _, below := range impl.BelowOf(p, a) {
					if s := impl.Selected(p, below, name); s >= 0 {
						selected++
						if !slices.Contains(targets, s) || !slices.Contains(impl.AboveOf(p, below), s) {
							t.Fatalf("Selected(%d, %d) = %d, Targets(%d, %d) = %v, of %v", below, name, s, a, name, targets, p)
						}
					}
				}
			}
		}
	}
	if found < 1000 || selected < 1000 {
		t.Errorf("only %d lowest and %d selected ones", found, selected)
	}
}

// wrongFamilies are changed in one thing each, and none is right then.
func wrongFamilies(t *testing.T) map[string]impl.Program {
	t.Helper()
	all := map[string]impl.Program{"very many classes": {Classes: make([]impl.Class, 100000)}}
	for _, c := range []struct {
		why    string
		change func(p *impl.Program)
	}{
		{"no classes", func(p *impl.Program) { p.Classes = nil }},
		{"seven classes", func(p *impl.Program) { p.Classes = append(p.Classes, impl.Class{Super: -1}) }},
		{"the first above itself", func(p *impl.Program) { p.Classes[0].Super = 0 }},
		{"the last above itself", func(p *impl.Program) { p.Classes[5].Super = 5 }},
		{"two above each other", func(p *impl.Program) { p.Classes[2].Super, p.Classes[4].Super = 4, 2 }},
		{"below one that is not there", func(p *impl.Program) { p.Classes[4].Super = 6 }},
		{"below -2", func(p *impl.Program) { p.Classes[4].Super = -2 }},
		{"below the least number", func(p *impl.Program) { p.Classes[4].Super = math.MinInt64 }},
		{"below the greatest number", func(p *impl.Program) { p.Classes[4].Super = math.MaxInt64 }},
		{"a field of no type", func(p *impl.Program) { p.Classes[5].Fields = []int64{6} }},
		{"a method without Code", func(p *impl.Program) { p.Classes[5].Methods[0].Code = nil }},
		{"a method named 20", func(p *impl.Program) { p.Classes[5].Methods[0].Name = 20 }},
		{"a method unlike the one above", func(p *impl.Program) { p.Classes[4].Methods[0].Gives = 0 }},
		{"no beginning", func(p *impl.Program) { p.Classes[0].Methods = p.Classes[0].Methods[1:] }},
	} {
		p := family()
		c.change(&p)
		all[c.why] = p
	}
	for why, p := range all {
		if wrongWith(p) == "" {
			t.Errorf("%s: the test itself finds nothing wrong", why)
		}
	}
	return all
}

func TestPromise5WrongPrograms(t *testing.T) {
	for why, p := range wrongFamilies(t) {
		checkNoHierarchy(t, why, p)
	}
}

func TestPromise21HierarchyAnswersAreNewMemory(t *testing.T) {
	p, kept := family(), family()
	for _, class := range someClasses(p) {
		for _, c := range []struct {
			why    string
			answer func() []int64
		}{
			{"AboveOf", func() []int64 { return impl.AboveOf(p, class) }},
			{"BelowOf", func() []int64 { return impl.BelowOf(p, class) }},
			{"Targets of 0", func() []int64 { return impl.Targets(p, class, 0) }},
			{"Targets of 7", func() []int64 { return impl.Targets(p, class, 7) }},
			{"Targets of 12", func() []int64 { return impl.Targets(p, class, 12) }},
		} {
			got, other := c.answer(), c.answer()
			want := slices.Clone(got)
			got = got[:cap(got)]
			for k := range got {
				got[k] = 77
			}
			if again := c.answer(); !slices.Equal(other, want) || !slices.Equal(again, want) || !sameProgram(p, kept) {
				t.Fatalf("%s %d: %v and again %v, want %v, of %v", c.why, class, other, again, want, p)
			}
		}
	}
}

func TestPromise21HierarchyLeavesArguments(t *testing.T) {
	programs := []impl.Program{{}, lone(), family(), row()}
	for seed := range uint64(300) {
		programs = append(programs, drawnProgram(seed))
	}
	for _, plain := range programs {
		p, whole := roomy(plain)
		_, want := roomy(plain)
		for _, a := range someClasses(p) {
			impl.AboveOf(p, a)
			impl.BelowOf(p, a)
			for _, b := range someClasses(p) {
				impl.Under(p, a, b)
				impl.Lowest(p, a, b)
			}
			for _, name := range someNames() {
				impl.Selected(p, a, name)
				impl.Targets(p, a, name)
			}
		}
		if !sameProgram(p, plain) || !reflect.DeepEqual(whole, want) {
			t.Fatal(fmt.Sprint("an argument, or the room behind it, is changed: ", plain))
		}
	}
}
