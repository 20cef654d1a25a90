package tests

import (
	"reflect"
	"slices"
	"testing"

	"loop.example/g00334/impl"
)

// A numberSet has numbers of classes, or of methods as the class times 20 and the name.
type numberSet map[int64]bool

func (s numberSet) rising() []int64 {
	numbers := []int64{}
	for n := range int64(6 * 20) {
		if s[n] {
			numbers = append(numbers, n)
		}
	}
	return numbers
}

func (s numberSet) within(other numberSet) bool {
	for n := range s {
		if !other[n] {
			return false
		}
	}
	return true
}

// A teller tells the chapter's rules once more: what some classes and methods bring with them in one go.
type teller struct {
	p     impl.Program
	under [][]bool
	// methods are all of the program by their numbers, insns those of them that are reached in it.
	methods map[int64]impl.Method
	insns   map[int64][]impl.Insn
}

func tellerOf(p impl.Program) teller {
	t := teller{p, underIn(p), map[int64]impl.Method{}, map[int64][]impl.Insn{}}
	for k, c := range p.Classes {
		for _, m := range c.Methods {
			n := int64(k)*20 + m.Name
			t.methods[n] = m
			for _, at := range reachedTold(m.Code) {
				t.insns[n] = append(t.insns[n], m.Code[at])
			}
		}
	}
	return t
}

// brings is what these made classes and these methods ask to be made and reached.
func (t teller) brings(made numberSet, live numberSet) (numberSet, numberSet) {
	allMade, allLive := numberSet{0: true}, numberSet{0: true}
	for n := range live {
		for _, i := range t.insns[n] {
			if i.Op == impl.OpNew && isThere(t.p, i.A) {
				allMade[i.A] = true
			}
			if i.Op != impl.OpCall || !isThere(t.p, i.A) {
				continue
			}
			for k := range int64(len(t.p.Classes)) {
				if k != i.A && !(made[k] && t.under[k][i.A]) {
					continue
				}
				if selected := selectedIn(t.p, t.under, k, i.B); selected >= 0 {
					allLive[selected*20+i.B] = true
				}
			}
		}
	}
	return allMade, allLive
}

// needs is what these made classes, these methods and these needed classes ask to be needed.
func (t teller) needs(made numberSet, live numberSet, needed numberSet) numberSet {
	var types []int64
	for n := range live {
		m := t.methods[n]
		types = append(append(types, n/20, m.Gives), m.Args...)
		for _, i := range t.insns[n] {
			if i.Op == impl.OpGet || i.Op == impl.OpPut || i.Op == impl.OpCall {
				types = append(types, i.A)
			}
		}
	}
	for k := range needed {
		types = append(append(types, t.p.Classes[k].Super), t.p.Classes[k].Fields...)
	}
	all := numberSet{}
	for k := range made {
		all[k] = true
	}
	for _, k := range types {
		if isThere(t.p, k) {
			all[k] = true
		}
	}
	return all
}

// least goes round by round, until a round brings nothing that the one ahead did not.
func (t teller) least() (made numberSet, live numberSet, needed numberSet) {
	for {
		moreMade, moreLive := t.brings(made, live)
		if len(moreMade) == len(made) && len(moreLive) == len(live) {
			break
		}
		made, live = moreMade, moreLive
	}
	for {
		more := t.needs(made, live, needed)
		if len(more) == len(needed) {
			return made, live, needed
		}
		needed = more
	}
}

func rises(list []int64) bool {
	return slices.IsSorted(list) && len(slices.Compact(slices.Clone(list))) == len(list)
}

// checkReach holds the chapter's functions against the rules told once more.
func checkReach(t *testing.T, p impl.Program) {
	t.Helper()
	if why := wrongWith(p); why != "" {
		checkNoReach(t, why, p)
		return
	}
	made, live, needed := tellerOf(p).least()
	for _, c := range []struct {
		name string
		got  []int64
		want numberSet
	}{{"Made", impl.Made(p), made}, {"LiveMethods", impl.LiveMethods(p), live}, {"Needed", impl.Needed(p), needed}} {
		if !rises(c.got) || !slices.Equal(c.got, c.want.rising()) {
			t.Fatalf("%s = %v, want %v, of %s", c.name, c.got, c.want.rising(), impl.ShowProgram(p))
		}
	}
}

// checkNoReach asks that every function of the chapter gives its one fixed answer.
func checkNoReach(t *testing.T, why string, p impl.Program) {
	t.Helper()
	if wrongWith(p) == "" {
		t.Fatalf("%s: the test itself finds nothing wrong", why)
	}
	if made, live, needed := impl.Made(p), impl.LiveMethods(p), impl.Needed(p); len(made)+len(live)+len(needed) != 0 {
		t.Errorf("%s: Made, LiveMethods, Needed = %v, %v, %v", why, made, live, needed)
	}
}

// A reachCase is a program and what a reader of the chapter finds in it.
type reachCase struct {
	why                string
	classes            []impl.Class
	made, live, needed string
}

func checkReachCases(t *testing.T, cases []reachCase) {
	t.Helper()
	for _, c := range cases {
		p := impl.Program{Classes: c.classes}
		if why := wrongWith(p); why != "" {
			t.Fatalf("%s: %s is wrong", c.why, why)
		}
		if got := impl.Made(p); !slices.Equal(got, numbersIn(c.made)) {
			t.Errorf("%s: Made = %v, want %s", c.why, got, c.made)
		}
		if got := impl.LiveMethods(p); !slices.Equal(got, numbersIn(c.live)) {
			t.Errorf("%s: LiveMethods = %v, want %s", c.why, got, c.live)
		}
		if got := impl.Needed(p); !slices.Equal(got, numbersIn(c.needed)) {
			t.Errorf("%s: Needed = %v, want %s", c.why, got, c.needed)
		}
		checkReach(t, p)
	}
}

// opening is class 0 with this code where it begins, and perhaps other methods.
func opening(text string, others ...impl.Method) impl.Class {
	return impl.Class{Super: -1, Methods: append([]impl.Method{does(0, text)}, others...)}
}

func below(super int64, methods ...impl.Method) impl.Class {
	return impl.Class{Super: super, Methods: methods}
}

// holding is a class with fields of these types.
func holding(super int64, types ...int64) impl.Class {
	return impl.Class{Super: super, Fields: types}
}

func alone(methods ...impl.Method) impl.Class { return below(-1, methods...) }

// does is a method that takes nothing and gives TyInt.
func does(name int64, text string) impl.Method { return asks(name, text, impl.TyInt) }

// asks is a method that gives and takes these types.
func asks(name int64, text string, given int64, args ...int64) impl.Method {
	return impl.Method{Name: name, Args: args, Gives: given, Code: codeOfInsns(text)}
}

func TestPromise14WhereItBegins(t *testing.T) {
	checkReachCases(t, []reachCase{
		{"the least program", []impl.Class{opening("a0 t")}, "0", "0", "0"},
		{"one more method", []impl.Class{opening("a0 t", does(7, "n0 t"))}, "0", "0", "0"},
		{"one more class, that would make and call", []impl.Class{opening("a0 t"), alone(does(0, "n1 q1,0 t"))}, "0", "0", "0"},
		{"one more class below", []impl.Class{opening("a0 t"), below(0, does(0, "n1 q1,0 t"))}, "0", "0", "0"},
		{"all else that a step can be", []impl.Class{opening("a1 c1 b1 b0 i a1 d a1 e a1 f a1 g h i a1 j i m i m r s k24 l25 t"), alone(does(0, "a5 t")), alone(does(1, "a5 t"))}, "0", "0", "0"},
		{"it calls itself", []impl.Class{opening("b0 q0,0 t")}, "0", "0", "0"},
		{"it makes itself", []impl.Class{opening("n0 i a0 t")}, "0", "0", "0"},
		{"it calls itself, what has it below is not made", []impl.Class{opening("b0 q0,0 t"), below(0, does(0, "n2 i a0 t")), alone()}, "0", "0", "0"},
		{"it calls itself, what has it below is made", []impl.Class{opening("n1 q0,0 t"), below(0, does(0, "n2 i a0 t")), alone()}, "0 1 2", "0 20", "0 1 2"},
		{"what has it below is made, but it does not call itself", []impl.Class{opening("n1 i a0 t"), below(0, does(0, "n2 i a0 t")), alone()}, "0 1", "0", "0 1"},
		{"it calls another one of its own", []impl.Class{opening("b0 q0,7 t", does(6, "a6 t"), does(7, "a7 t"), does(19, "a9 t"))}, "0", "0 7", "0"},
		{"it calls the last one of its own", []impl.Class{opening("b0 q0,19 t", does(6, "a6 t"), does(7, "a7 t"), does(19, "a9 t"))}, "0", "0 19", "0"},
	})
}

// The class of OpNew is made where the step is Reached, whatever comes of it.
func TestPromise14MadeWhereReached(t *testing.T) {
	five := []impl.Class{alone(), alone(), alone(), alone(), alone()}
	for _, c := range []struct{ why, text, made string }{
		{"one", "n1 i a0 t", "0 1"},
		{"the last one", "n5 i a0 t", "0 5"},
		{"some, the greater ahead", "n4 i n2 i a0 t", "0 2 4"},
		{"one twice", "n3 i n3 i a0 t", "0 3"},
		{"all", "n5 i n4 i n3 i n2 i n1 i n0 i a0 t", "0 1 2 3 4 5"},
		{"another one jumped over", "n1 i k5 n2 i a0 t", "0 1"},
		{"one jumped over, another behind it", "k3 n2 i n1 i a0 t", "0 1"},
		{"another one behind OpGive", "n1 i a0 t n2 i a0 t", "0 1"},
		{"another one behind a jump back", "n1 i k0 n2 i a0 t", "0 1"},
		{"another one that only goes round by itself", "n1 i a0 t n2 i k4", "0 1"},
		{"both ways of OpZero", "a0 l6 n1 i a0 t n2 i a0 t", "0 1 2"},
		{"both ways of OpZero, though it is known which", "a1 l4 n1 i n2 i a0 t", "0 1 2"},
		{"behind a jump forth and back", "k5 n1 i a0 t k1", "0 1"},
		{"what is behind what can't be done", "i n1 i a0 t", "0 1"},
		{"with nothing on the way to the end", "n1 n2 n3", "0 1 2 3"},
		{"the last step of the longest code", "m" + steps(38, "h") + " n4", "0 4"},
		{"the last step of the longest code, behind a jump to itself", "k0" + steps(38, "h") + " n4", "0"},
	} {
		checkReachCases(t, []reachCase{{c.why, append([]impl.Class{opening(c.text)}, five...), c.made, "0", c.made}})
	}
}

// Of a call of class A and name B: what A selects, and what each made class Under A does.
func TestPromise14LiveByACall(t *testing.T) {
	seven := does(7, "a1 t")
	checkReachCases(t, []reachCase{
		{"a made class with its own, which makes and calls", []impl.Class{opening("n2 q1,7 t"), alone(seven), below(1, does(7, "n3 q3,8 t")), alone(does(8, "a1 t")), alone(seven, does(8, "a1 t"))},
			"0 2 3", "0 27 47 68", "0 1 2 3"},
		{"a class with its own that is not made, beside one that is", []impl.Class{opening("n2 q1,7 t"), alone(seven), below(1, does(7, "n4 q4,8 t")), below(1, does(7, "n5 q5,9 t")), alone(does(8, "a1 t")), alone(does(9, "a1 t"))},
			"0 2 4", "0 27 47 88", "0 1 2 4"},
		{"a made class without its own", []impl.Class{opening("n2 q1,7 t"), alone(does(7, "n3 i a0 t")), below(1), alone()},
			"0 2 3", "0 27", "0 1 2 3"},
		{"a made class without its own, below one with its own that is not made", []impl.Class{opening("n3 q1,7 t"), alone(seven), below(1, does(7, "n4 i a0 t")), below(2), alone()},
			"0 3 4", "0 27 47", "0 1 2 3 4"},
		{"a made class with its own that is not below", []impl.Class{opening("n2 i n1 q1,7 t"), alone(seven), alone(does(7, "n3 i a0 t")), alone()},
			"0 1 2", "0 27", "0 1 2"},
		{"a made class with its own that is above", []impl.Class{opening("n1 i n2 q2,7 t"), alone(does(7, "n3 i a0 t")), below(1, seven), alone()},
			"0 1 2", "0 47", "0 1 2"},
		{"a made class with its own that is beside it, below the same", []impl.Class{opening("n3 i n2 q2,7 t"), alone(seven), below(1, seven), below(1, does(7, "n4 i a0 t")), alone()},
			"0 2 3", "0 47", "0 1 2 3"},
		{"another name of the same", []impl.Class{opening("n2 q1,7 t"), alone(seven, does(8, "a1 t")), below(1, seven, does(8, "a1 t"))},
			"0 2", "0 27 47", "0 1 2"},
		{"the same name of another one", []impl.Class{opening("n1 q1,7 n2 q2,8 t"), alone(seven, does(8, "a1 t")), alone(seven, does(8, "a1 t"))},
			"0 1 2", "0 27 48", "0 1 2"},
		{"a class that is not made", []impl.Class{opening("m q1,7 t"), alone(does(7, "n2 q3,8 t")), alone(), alone(does(8, "a1 t"))},
			"0 2", "0 27 68", "0 1 2 3"},
		{"a class that is not made, which has it from above", []impl.Class{opening("m q3,7 t"), alone(seven), below(1, does(7, "n4 i a0 t")), below(2), alone()},
			"0 4", "0 47", "0 1 2 3 4"},
		{"a class that is not made, which has its own", []impl.Class{opening("m q2,7 t"), alone(seven), below(1, does(7, "n4 i a0 t")), below(2, seven), alone()},
			"0 4", "0 47", "0 1 2 4"},
		{"a class below class 0, which is made but not below it", []impl.Class{opening("m q1,7 t", seven), below(0, does(7, "n2 i a0 t")), alone()},
			"0 2", "0 27", "0 1 2"},
		{"class 0, which is made", []impl.Class{opening("m q0,7 t", does(7, "n2 i a0 t")), below(0, seven), alone()},
			"0 2", "0 7", "0 2"},
		{"in a step that is not Reached", []impl.Class{opening("n2 i k4 q1,7 a0 t"), alone(seven), below(1, seven)},
			"0 2", "0", "0 1 2"},
		{"of null", []impl.Class{opening("n2 i m q1,7 t"), alone(seven), below(1, seven)},
			"0 2", "0 27 47", "0 1 2"},
		{"two calls, of which only one comes to a made class", []impl.Class{opening("n3 q1,7 i m q2,7 t"), alone(seven), alone(seven), below(1, seven), below(2, seven)},
			"0 3", "0 27 47 67", "0 1 2 3"},
		{"one call by six classes in a row", []impl.Class{opening("n5 i n3 i m q1,7 t"), alone(seven), below(1, seven), below(2, seven), below(3, seven), below(4, seven)},
			"0 3 5", "0 27 67 107", "0 1 2 3 4 5"},
	})
}

// What is found later is held against what was found ahead, whichever it is.
func TestPromise14SeveralRounds(t *testing.T) {
	seven := does(7, "a1 t")
	makes := func(text string) impl.Method { return does(7, text+" i a0 t") }
	checkReachCases(t, []reachCase{
		{"made ahead of the call", []impl.Class{opening("n2 i m q1,7 t"), alone(seven), below(1, seven)},
			"0 2", "0 27 47", "0 1 2"},
		{"made behind the call", []impl.Class{opening("m q1,7 n2 i t"), alone(seven), below(1, seven)},
			"0 2", "0 27 47", "0 1 2"},
		{"made by what the call reaches", []impl.Class{opening("m q1,7 t"), alone(makes("n2")), below(1, seven)},
			"0 2", "0 27 47", "0 1 2"},
		{"made by what a later call reaches", []impl.Class{opening("m q1,7 m q3,8 t"), alone(seven), below(1, seven), alone(does(8, "n2 i a0 t"))},
			"0 2", "0 27 47 68", "0 1 2 3"},
		{"called by what a later class is made for", []impl.Class{opening("n2 i n3 q3,8 t"), alone(seven), below(1, seven), alone(does(8, "m q1,7 t"))},
			"0 2 3", "0 27 47 68", "0 1 2 3"},
		{"each made by the one above it", []impl.Class{opening("n1 q1,7 t"), alone(makes("n2")), below(1, makes("n3")), below(2, makes("n4")), below(3, makes("n5")), below(4, seven)},
			"0 1 2 3 4 5", "0 27 47 67 87 107", "0 1 2 3 4 5"},
		{"each made by the one above it, but one", []impl.Class{opening("n1 q1,7 t"), alone(makes("n2")), below(1, makes("n3")), below(2, makes("n2")), below(3, makes("n5")), below(4, seven)},
			"0 1 2 3", "0 27 47 67", "0 1 2 3"},
		{"each made by the one with the greater number", []impl.Class{opening("n5 q1,7 t"), alone(seven), below(1, makes("n1")), below(1, makes("n2")), below(1, makes("n3")), below(1, makes("n4"))},
			"0 1 2 3 4 5", "0 27 47 67 87 107", "0 1 2 3 4 5"},
		{"to and fro between two names", []impl.Class{opening("n2 q1,7 m q1,8 t"), alone(seven, does(8, "a1 t")), below(1, does(7, "n3 i a0 t"), does(8, "n4 i a0 t")), below(1, does(8, "n5 i a0 t")), below(1, does(7, "a9 t")), below(1, does(7, "n0 i b0 q0,0 t"))},
			"0 2 3 4 5", "0 27 28 47 48 68 87 107", "0 1 2 3 4 5"},
		{"made only by what is reached only as another one is made", []impl.Class{opening("n2 q1,7 t"), alone(seven), below(1, does(7, "n4 q3,8 t")), alone(does(8, "a8 t")), below(3, does(8, "n5 i a0 t")), alone()},
			"0 2 4 5", "0 27 47 68 88", "0 1 2 3 4 5"},
		{"made only by what would be reached if another one were made", []impl.Class{opening("m q1,7 t"), alone(seven), below(1, does(7, "n4 q3,8 t")), alone(does(8, "a8 t")), below(3, does(8, "n2 i a0 t"))},
			"0", "0 27", "0 1"},
		{"two that would make each other", []impl.Class{opening("m q1,7 t"), alone(seven), below(1, makes("n3")), below(1, makes("n2"))},
			"0", "0 27", "0 1"},
		{"two that make each other", []impl.Class{opening("n3 q1,7 t"), alone(seven), below(1, makes("n3")), below(1, makes("n2"))},
			"0 2 3", "0 27 47 67", "0 1 2 3"},
	})
}

func TestPromise14CallsGoRound(t *testing.T) {
	checkReachCases(t, []reachCase{
		{"itself", []impl.Class{opening("m q1,7 t"), alone(does(7, "b0 q1,7 t"))}, "0", "0 27", "0 1"},
		{"itself, by nobody else", []impl.Class{opening("a0 t"), alone(does(7, "b0 q1,7 t"))}, "0", "0", "0"},
		{"each other", []impl.Class{opening("m q1,7 t"), alone(does(7, "b0 q1,8 t"), does(8, "b0 q1,7 t"))}, "0", "0 27 28", "0 1"},
		{"each other, by nobody else", []impl.Class{opening("n1 i a0 t"), alone(does(7, "b0 q1,8 t"), does(8, "b0 q1,7 t"))}, "0 1", "0", "0 1"},
		{"each other, in two classes", []impl.Class{opening("m q2,7 t"), alone(does(7, "m q2,7 t")), alone(does(7, "m q1,7 t"))}, "0", "0 27 47", "0 1 2"},
		{"where it begins", []impl.Class{opening("m q1,7 t"), alone(does(7, "m q0,0 t"))}, "0", "0 27", "0 1"},
		{"one of its own, which calls itself", []impl.Class{opening("b0 q0,7 t", does(7, "b0 q0,8 t"), does(8, "b0 q0,7 t"), does(9, "b0 q0,9 t"))}, "0", "0 7 8", "0"},
		{"in a round of five", []impl.Class{opening("m q5,7 t"), alone(does(7, "m q5,7 t")), alone(does(7, "m q1,7 t")), alone(does(7, "m q2,7 t")), alone(does(7, "m q3,7 t")), alone(does(7, "m q4,7 t"))}, "0", "0 27 47 67 87 107", "0 1 2 3 4 5"},
	})
}

// What a step names and is not there is neither made nor reached nor needed.
func TestPromise14WhatIsNotThere(t *testing.T) {
	checkReachCases(t, []reachCase{
		{"a class to make", []impl.Class{opening("n1 n2 n3 n4 n5 t")}, "0", "0", "0"},
		{"the class behind the last", []impl.Class{opening("n1 i n2 i a0 t"), alone()}, "0 1", "0", "0 1"},
		{"a class to call", []impl.Class{opening("m q2,7 i m q5,0 t"), alone(does(7, "a1 t"))}, "0", "0", "0"},
		{"a class to look into", []impl.Class{opening("m o1,0 i m o5,3 i m a1 p1,0 m a1 p5,3 a0 t")}, "0", "0", "0"},
		{"a name to call", []impl.Class{opening("m q1,8 i m q2,9 t"), alone(does(7, "a1 t")), below(1, does(8, "n3 t")), alone()}, "0", "0", "0 1 2"},
		{"a name to call, but below, where nothing is made", []impl.Class{opening("n1 q1,7 t"), alone(), below(1, does(7, "a1 t"))}, "0 1", "0", "0 1"},
		{"a name to call, but below, where one is made", []impl.Class{opening("n2 q1,7 t"), alone(), below(1, does(7, "n3 i a1 t")), alone()}, "0 2 3", "0 47", "0 1 2 3"},
		{"a name to call, but below, where one below is made", []impl.Class{opening("n3 q1,7 t"), alone(), below(1, does(7, "a1 t")), below(2)}, "0 3", "0 47", "0 1 2 3"},
		{"a field to look into", []impl.Class{opening("m o1,0 t"), alone(does(7, "a1 t"))}, "0", "0", "0 1"},
	})
}

// Needed are those of what is reached, and from these on by fields and Supers.
func TestPromise14Needed(t *testing.T) {
	checkReachCases(t, []reachCase{
		{"nothing else", []impl.Class{opening("m i m r i a0 t"), holding(-1, 0, 2), below(0), alone()}, "0", "0", "0"},
		{"the types of class 0's fields", []impl.Class{{Super: -1, Fields: []int64{2, impl.TyInt, 4}, Methods: []impl.Method{begins()}}, alone(), alone(), alone(), alone()}, "0", "0", "0 2 4"},
		{"those of OpGet", []impl.Class{opening("m o2,0 t"), alone(), holding(-1, impl.TyInt), alone()}, "0", "0", "0 2"},
		{"those of OpPut", []impl.Class{opening("m a1 p2,0 a0 t"), alone(), holding(-1, impl.TyInt), alone()}, "0", "0", "0 2"},
		{"those of OpCall", []impl.Class{opening("m q2,7 t"), alone(), alone(does(7, "a1 t")), alone()}, "0", "0 47", "0 2"},
		{"of OpGet in a step that is not Reached", []impl.Class{opening("a0 t m o1,0 t"), holding(-1, impl.TyInt)}, "0", "0", "0"},
		{"of OpPut in a step that is not Reached", []impl.Class{opening("k4 m a1 p1,0 a0 t"), holding(-1, impl.TyInt)}, "0", "0", "0"},
		{"of OpCall in a step that is not Reached", []impl.Class{opening("k3 m q1,7 a0 t"), alone(does(7, "a1 t"))}, "0", "0", "0"},
		{"of OpNew in a step that is not Reached", []impl.Class{opening("k3 n1 i a0 t"), alone()}, "0", "0", "0"},
		{"of steps in a method that is not reached", []impl.Class{opening("a0 t", does(7, "n1 i m o2,0 i m a1 p3,0 m q4,7 t")), alone(), holding(-1, 0), holding(-1, impl.TyInt), alone(does(7, "a1 t"))}, "0", "0", "0"},
		{"of steps in a method that is reached", []impl.Class{opening("b0 q0,7 t", does(7, "n1 i m o2,0 i m a1 p3,0 m q4,7 t")), alone(), holding(-1, 0), holding(-1, impl.TyInt), alone(does(7, "a1 t"))}, "0 1", "0 7 87", "0 1 2 3 4"},
		{"Args and Gives of a method that is reached", []impl.Class{opening("m m a1 q1,7 i a0 t"), alone(asks(7, "m t", 3, 2, impl.TyInt)), alone(), alone(), alone()}, "0", "0 27", "0 1 2 3"},
		{"all three Args of a method that is reached", []impl.Class{opening("m m m m q1,7 t"), alone(asks(7, "a1 t", impl.TyInt, 5, 2, 4)), alone(), alone(), alone(), alone()}, "0", "0 27", "0 1 2 4 5"},
		{"Args and Gives of a method that is not reached", []impl.Class{opening("n1 i a0 t"), alone(asks(7, "m t", 3, 2, impl.TyInt)), alone(), alone()}, "0 1", "0", "0 1"},
		{"Args and Gives of a method beside one that is reached", []impl.Class{opening("m q1,8 t"), alone(asks(7, "m t", 3, 2, impl.TyInt), does(8, "a1 t")), alone(), alone()}, "0", "0 28", "0 1"},
		{"the class of a method between the one called and the one made", []impl.Class{opening("n3 q1,7 t"), alone(does(7, "a1 t")), below(1, does(7, "a1 t")), below(2), below(2)}, "0 3", "0 27 47", "0 1 2 3"},
		{"Super, and its, and its", []impl.Class{opening("n5 i a0 t"), alone(), below(1), below(2), alone(), below(3)}, "0 5", "0", "0 1 2 3 5"},
		{"none below", []impl.Class{opening("n2 i a0 t"), alone(), below(1), below(2), below(1), below(0)}, "0 2", "0", "0 1 2"},
		{"field to field to field", []impl.Class{opening("n3 i a0 t"), holding(-1, 5), holding(-1, 4), holding(-1, impl.TyInt, 1), alone(), holding(-1, 2)}, "0 3", "0", "0 1 2 3 4 5"},
		{"fields of what is above, and what is above fields", []impl.Class{opening("n2 i a0 t"), holding(-1, 4), below(1), alone(), below(3), alone()}, "0 2", "0", "0 1 2 3 4"},
		{"all four fields", []impl.Class{opening("m o1,0 i a0 t"), holding(-1, 5, 2, 4, 3), alone(), alone(), alone(), alone()}, "0", "0", "0 1 2 3 4 5"},
		{"fields round and round", []impl.Class{opening("n1 i a0 t"), holding(-1, 2, 1), holding(-1, 1, 2), holding(-1, 1, 2, 3)}, "0 1", "0", "0 1 2"},
		{"fields of what is not needed", []impl.Class{opening("n1 i a0 t"), alone(), holding(-1, 3), holding(-1, 2)}, "0 1", "0", "0 1"},
		{"what is needed is not made, and its methods not reached", []impl.Class{opening("n1 q1,7 t"), {Super: -1, Fields: []int64{2}, Methods: []impl.Method{does(7, "a1 t")}}, below(1, does(7, "n3 i a0 t")), alone()}, "0 1", "0 27", "0 1 2"},
		{"fields and Super of what is only an Arg", []impl.Class{opening("m m q1,7 t"), alone(asks(7, "a1 t", impl.TyInt, 4)), alone(), alone(), holding(3, 2), alone()}, "0", "0 27", "0 1 2 3 4"},
		{"fields and Super of what is only given", []impl.Class{opening("m q1,7 i a0 t"), alone(asks(7, "m t", 4)), alone(), alone(), holding(3, 2), alone()}, "0", "0 27", "0 1 2 3 4"},
		{"fields and Super of what is only looked into", []impl.Class{opening("m o4,0 i a0 t"), alone(), alone(), alone(), holding(3, 2), alone()}, "0", "0", "0 2 3 4"},
	})
}

// These are programs of other chapters' tests, with codes that do hardly more than give.
func TestPromise14Families(t *testing.T) {
	for _, c := range []struct {
		p                  impl.Program
		made, live, needed string
	}{
		{lone(), "0", "0", "0"},
		{row(), "0", "0", "0"},
		{family(), "0", "0", "0 5"},
		{soundFamily(), "0", "0", "0 5"},
		{fullDoubles(t), "0", "0", "0"},
		{sharing(), "0", "0", "0"},
		{coded(t, 0, 0, "n4 q2,7 t"), "0 4", "0 47 87", "0 2 4 5"},
		{coded(t, 0, 0, "m m q4,4 t"), "0", "0 84", "0 1 2 3 4 5"},
		{coded(t, 0, 0, "n3 i m m q1,1 t"), "0 3", "0 21", "0 1 2 3 4 5"},
	} {
		checkReachCases(t, []reachCase{{impl.ShowProgram(c.p), c.p.Classes, c.made, c.live, c.needed}})
	}
}

func TestPromise14WrongPrograms(t *testing.T) {
	checkNoReach(t, "no classes", impl.Program{})
	for why, p := range wrongFamilies(t) {
		checkNoReach(t, why, p)
	}
	// All that could be reached is found ahead of what is wrong.
	for why, change := range map[string]func(p *impl.Program){
		"the last one's Super":       func(p *impl.Program) { p.Classes[5].Super = 5 },
		"the last one's field":       func(p *impl.Program) { p.Classes[5].Fields = []int64{6} },
		"the last one's Gives":       func(p *impl.Program) { p.Classes[5].Methods[0].Gives = 0 },
		"the last one's Args":        func(p *impl.Program) { p.Classes[5].Methods[0].Args = []int64{impl.TyNull} },
		"the last one's name":        func(p *impl.Program) { p.Classes[5].Methods[0].Name = 20 },
		"the last one's last step":   func(p *impl.Program) { p.Classes[5].Methods[0].Code[1].A = 1 },
		"the last one's code":        func(p *impl.Program) { p.Classes[5].Methods[0].Code = nil },
		"a jump that is not Reached": func(p *impl.Program) { p.Classes[5].Methods[0].Code = codeOfInsns("a1 t k3") },
		"one class more":             func(p *impl.Program) { p.Classes = append(p.Classes, alone()) },
		"where it begins takes one":  func(p *impl.Program) { p.Classes[0].Methods[0].Args = []int64{0} },
		"where it begins gives one":  func(p *impl.Program) { p.Classes[0].Methods[0].Gives = 0 },
		"it begins nowhere":          func(p *impl.Program) { p.Classes[0].Methods[0].Name = 1 },
	} {
		seven := func() impl.Method { return does(7, "a1 t") }
		p := impl.Program{Classes: []impl.Class{opening("n5 i n4 i n3 i n2 q1,7 t"), alone(seven()), below(1, seven()), below(2, seven()), below(3, seven()), below(4, seven())}}
		checkReach(t, p)
		change(&p)
		checkNoReach(t, why, p)
	}
}

// reachAnswers are all lists of the chapter's answers for one program.
func reachAnswers(p impl.Program) [][]int64 {
	return [][]int64{impl.Made(p), impl.LiveMethods(p), impl.Needed(p)}
}

// checkReachMemory writes into what is answered; neither an argument, nor the room behind it, nor an answer of before or after changes by it.
func checkReachMemory(t *testing.T, plain impl.Program) {
	t.Helper()
	p, whole := roomy(plain)
	_, wantWhole := roomy(plain)
	first, second := reachAnswers(p), reachAnswers(p)
	want := cloned(first)
	checkNoneShared(t, "answers", first)
	for _, list := range first {
		_ = append(list, 77, 78, 79)
		_ = append(list[:0], 80, 81, 82)
	}
	if !slices.EqualFunc(second, want, slices.Equal) {
		t.Fatalf("an answer of before is changed: %v, was %v, of %v", second, want, plain)
	}
	if third := reachAnswers(p); !slices.EqualFunc(third, want, slices.Equal) {
		t.Fatalf("again %v, want %v, of %v", third, want, plain)
	}
	if !sameProgram(p, plain) || !reflect.DeepEqual(whole, wantWhole) {
		t.Fatalf("an argument, or the room behind it, is changed: %v", plain)
	}
}

func TestPromise21ReachIsNewMemory(t *testing.T) {
	programs := []impl.Program{{}, lone(), row(), family(), soundFamily(), sharing(), fullDoubles(t)}
	for _, p := range wrongFamilies(t) {
		programs = append(programs, p)
	}
	for seed := range uint64(300) {
		programs = append(programs, drawnProgram(seed), livelyProgram(seed), muddled(seed), chorus(seed), sprawling(seed), errands(seed))
	}
	for _, p := range programs {
		if len(p.Classes) < 100 {
			checkReachMemory(t, p)
		}
	}
}

// Code behind that of a method is not the method's, and Classes behind those of a program are not its own.
func TestPromise21ReachOfWhatLiesBehind(t *testing.T) {
	long := codeOfInsns("a0 n1 i n2 i n3 i n4 i m q5,7 t")
	classes := []impl.Class{opening("a0 t"), alone(), alone(), alone(), alone(), alone(does(7, "a1 t")), alone()}
	for n := 1; n <= 6; n++ {
		for steps := 1; steps <= len(long); steps++ {
			p := impl.Program{Classes: classes[:n]}
			p.Classes[0].Methods[0].Code = long[:steps]
			checkReach(t, p)
		}
	}
	if p := (impl.Program{Classes: classes}); len(slices.Concat(reachAnswers(p)...)) != 0 {
		t.Errorf("of seven classes: %v", reachAnswers(p))
	}
}
