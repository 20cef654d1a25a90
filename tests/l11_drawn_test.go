package tests

import (
	"slices"
	"testing"

	"loop.example/g00334/impl"
)

// drawnPairs draws codes of pairs that come to nothing or nearly do, of stores and loads, with few turns between.
func drawnPairs(seed uint64, n int) []impl.Insn {
	next := drawer(seed)
	locals, words := 1+next(3), 1+next(3)
	turning := 3 + next(14)
	pairs := []string{"m i", "h i", "j j", "a0 d", "a0 e", "a1 f", "a1 g", "a1 d", "a0 f", "c0 i", "i a0", "j i", "s r"}
	var code []impl.Insn
	for len(code) < n {
		switch next(6) {
		case 0, 1:
			code = append(code, codeOfInsns(pairs[next(len(pairs))])...)
		case 2:
			code = append(code, impl.Insn{Op: impl.OpPush, A: int64(next(words))}, impl.Insn{Op: impl.OpZero, A: int64(next(n))})
		case 3:
			code = append(code, impl.Insn{Op: impl.OpPush, A: int64(next(words))}, impl.Insn{Op: impl.OpStore, A: int64(next(locals))})
		case 4:
			code = append(code, impl.Insn{Op: impl.OpLoad, A: int64(next(locals))}, impl.Insn{Op: int64(impl.OpDup + next(3))})
		default:
			code = append(code, impl.Insn{Op: int64(impl.OpAdd + next(7))})
		}
		if next(turning) == 0 {
			code = append(code, []impl.Insn{{Op: impl.OpJump, A: int64(next(n))}, {Op: impl.OpZero, A: int64(next(n))}, {Op: impl.OpGive}}[next(3)])
		}
	}
	return code[:n]
}

func TestPromise11EveryShortCode(t *testing.T) {
	peeps, later, dead := 0, 0, 0
	look := func(code []impl.Insn) {
		checkPeep(t, code)
		peeps += len(impl.Peeps(code))
		later += pairsLater(code)
		dead += len(impl.DeadStores(code))
	}
	everyCode(4, "a0 a1 i j", true, look)
	everyCode(4, "b0 c0 c1 t", true, look)
	everyCode(5, "a0 a1 d f h i j", false, look)
	everyCode(6, "a0 i l1 l3 l5", false, look)
	everyCode(6, "a2 i l1 l3 l5", false, look)
	if peeps < 10000 || later < 20 || dead < 5000 {
		t.Errorf("only %d peeps, %d that come about later, %d dead stores", peeps, later, dead)
	}
}

// pairsLater are how many of what PeepedAll left out were no Peeps at first.
func pairsLater(code []impl.Insn) int {
	later := 0
	peeps, peeped := impl.Peeps(code), impl.PeepedAll(code)
	for at := 0; at+1 < len(code); at++ {
		// The first of the two was no OpJump, and now it is one.
		if code[at].Op != impl.OpJump && peeped[at].Op == impl.OpJump && code[at+1].Op != impl.OpJump && peeped[at+1].Op == impl.OpJump {
			if !slices.Contains(peeps, int64(at)) {
				later++
			}
			at++
		}
	}
	return later
}

func TestPromise11DrawnCodes(t *testing.T) {
	peeps, later, led, dead, alive := 0, 0, 0, 0, 0
	for seed := range uint64(4000) {
		code := drawnPairs(seed, 1+int(seed%40))
		checkPeep(t, code)
		peeps += len(impl.Peeps(code))
		later += pairsLater(code)
		for at := range len(code) - 2 {
			if nothings.MatchString(impl.ShowCode(code[at:at+2])) && !slices.Contains(impl.Peeps(code), int64(at)) {
				led++
			}
		}
		dead += len(impl.DeadStores(code))
		for _, i := range impl.Unstored(code) {
			if i.Op == impl.OpStore {
				alive++
			}
		}
		if seed < 1500 {
			checkPeep(t, drawnWays(seed, 1+int(seed%40)))
		}
	}
	if peeps < 10000 || later < 200 || led < 1000 || dead < 1000 || alive < 1000 {
		t.Errorf("only %d peeps, %d that come about later, %d whose second one is a leader, %d dead stores, %d others", peeps, later, led, dead, alive)
	}
}

// Each pair, done on all words on the Stack, leaves all as a jump does.
func TestPromise11PairsLeaveAllAsItWas(t *testing.T) {
	words := []int64{}
	for _, n := range wordSamples() {
		if isWord(n) {
			words = append(words, n)
		}
	}
	for _, pair := range []string{"a3 i", "a0 i", "b1 i", "b5 i", "m i", "h i", "j j", "a0 d", "a0 e", "a1 f", "a1 g", "a0 l4", "a1 l4", "a-1 l4", "a-2147483648 l4", "a0 l0", "a9 l0", "a0 l2", "a9 l2"} {
		p := coded(t, 0, 0, pair+" s s s t")
		q := turnedProgram(p, func(code []impl.Insn) []impl.Insn {
			peeped, _ := impl.PeepAt(code, 0)
			return peeped
		})
		if sameProgram(p, q) {
			t.Fatalf("%s comes to something", pair)
		}
		for _, word := range words {
			m, _ := impl.Started(p)
			m.Frames[0].Locals[5] = number(word)
			m.Frames[0].Stack = []impl.Value{number(-word / 3), number(9), number(word)}
			twice, once := impl.Stepped(p, impl.Stepped(p, m)), impl.Stepped(q, m)
			if !sameMachine(twice, once) || once.End != impl.EnRuns {
				t.Fatalf("%s of %d: %v, peeped %v", pair, word, twice, once)
			}
		}
	}
}

// A litterer draws codes that are accepted always, as method 0 of a lone class, with pairs that come to nothing between all that it does.
type litterer struct {
	counter
	// Where the OpPop of a pair is with nothing below what it takes, and jumps that go there with one on the Stack.
	pops  []int64
	mixed []int
}

// litter wants so many numbers on the Stack.
func (l *litterer) litter(on int) {
	switch l.next(4) {
	case 0:
		if on == 0 {
			l.pops = append(l.pops, int64(len(l.insns))+1)
		}
		l.add([]impl.Insn{l.push(), l.load(), {Op: impl.OpNull}}[l.next(3)], impl.Insn{Op: impl.OpPop})
	case 1:
		l.add(codeOfInsns([]string{"m i", "h i", "j j"}[l.next(on+1)])...)
	default:
		if on > 0 {
			l.add(codeOfInsns([]string{"a0 d", "a0 e", "a1 f", "a1 g", "a1 d", "a0 f"}[l.next(6)])...)
		}
	}
}

func (l *litterer) value(on int) {
	l.add(l.pushOrLoad())
	if l.next(2) == 0 {
		l.litter(on)
	}
}

// statement leaves where a jump goes to for later.
func (l *litterer) statement() {
	l.begins = append(l.begins, int64(len(l.insns)))
	say := impl.Insn{Op: impl.OpSay}
	switch l.next(9) {
	case 0, 1:
		l.value(1)
		l.add(l.store())
	case 2:
		l.value(1)
		l.add(say)
	case 3:
		l.value(1)
		l.value(2)
		l.litter(2)
		l.add(l.work(), []impl.Insn{say, l.store()}[l.next(2)])
	case 4:
		l.litter(0)
	case 5:
		l.add(l.push(), impl.Insn{Op: impl.OpZero})
	case 6:
		l.add(l.pushOrLoad())
		l.mix(impl.OpJump)
	case 7:
		l.add(l.pushOrLoad(), l.push())
		l.mix(impl.OpZero)
		l.add(say)
	case 8:
		down := l.load()
		l.add(down, impl.Insn{Op: impl.OpPush, A: 1}, impl.Insn{Op: impl.OpSub}, impl.Insn{Op: impl.OpDup}, impl.Insn{Op: impl.OpStore, A: down.A}, impl.Insn{Op: impl.OpZero})
	}
}

func (l *litterer) mix(op int64) {
	l.mixed = append(l.mixed, len(l.insns))
	l.add(impl.Insn{Op: op})
}

func litteredCode(seed uint64) []impl.Insn {
	l := &litterer{counter: counter{next: drawer(seed)}}
	for local := int64(1); local <= 4; local++ {
		l.add(l.push(), impl.Insn{Op: impl.OpStore, A: local})
	}
	l.pops = []int64{int64(len(l.insns)) + 1}
	l.add(l.push(), impl.Insn{Op: impl.OpPop})
	for limit := 14 + l.next(15); len(l.insns) < limit; {
		l.statement()
	}
	l.begins = append(l.begins, int64(len(l.insns)))
	l.add(l.load(), impl.Insn{Op: impl.OpGive})
	for at := range l.insns {
		if slices.Contains(l.mixed, at) {
			l.insns[at].A = l.pops[l.next(len(l.pops))]
		} else if goes(l.insns[at]) {
			l.insns[at].A = l.begins[l.next(len(l.begins))]
		}
	}
	return l.insns
}

func litteredProgram(seed uint64) impl.Program {
	p := lone()
	p.Classes[0].Methods[0].Code = litteredCode(seed)
	return p
}

// peepTurns are all that the chapter makes of a code, alone and one behind the other.
func peepTurns() []func([]impl.Insn) []impl.Insn {
	return []func([]impl.Insn) []impl.Insn{
		impl.PeepedAll,
		impl.Unstored,
		func(code []impl.Insn) []impl.Insn { return impl.PeepedAll(impl.Unstored(code)) },
		func(code []impl.Insn) []impl.Insn { return impl.Unstored(impl.PeepedAll(code)) },
		func(code []impl.Insn) []impl.Insn { return impl.PeepedAll(impl.Unstored(impl.FoldedAll(code))) },
	}
}

// A heard tells what runs of some programs have come upon.
type heard struct {
	ended map[int64]int
	fewer []int
	later int
	dead  int
}

// checkPeepedHeard wants a program that is Sound.
func checkPeepedHeard(t *testing.T, p impl.Program, all *heard) {
	t.Helper()
	for k, turn := range peepTurns() {
		for _, n := range []int64{30, 400} {
			if checkSameHeard(t, p, turn, n) {
				all.fewer[k]++
			}
		}
	}
	all.ended[impl.Ran(p, 400).End]++
	for _, at := range methodsOf(p) {
		own, _ := impl.MethodOf(p, at[0], at[1])
		all.later += pairsLater(own.Code)
		all.dead += len(impl.DeadStores(own.Code))
	}
}

func TestPromise11WhatIsPeepedAndUnstoredIsTheSame(t *testing.T) {
	littered := heard{ended: map[int64]int{}, fewer: make([]int, 5)}
	lively := heard{ended: map[int64]int{}, fewer: make([]int, 5)}
	for seed := range uint64(1000) {
		p := litteredProgram(seed)
		if !impl.Sound(p) {
			t.Fatalf("%s is not Sound", impl.ShowProgram(p))
		}
		checkPeepedHeard(t, p, &littered)
		if p = livelyProgram(seed); impl.Sound(p) {
			checkPeepedHeard(t, p, &lively)
		}
		if p = countingProgram(seed); seed < 300 {
			checkPeepedHeard(t, p, &littered)
		}
	}
	if littered.fewer[0] < 500 || littered.fewer[1] != 0 || littered.fewer[2] < littered.fewer[0] || littered.later < 100 || littered.dead < 1000 {
		t.Errorf("only %v of littered programs", littered)
	}
	if lively.fewer[0] < 20 || lively.fewer[1] != 0 || lively.dead < 100 {
		t.Errorf("only %v of lively programs", lively)
	}
	for end := int64(impl.EnRuns); end < impl.EnStuck; end++ {
		if littered.ended[end]+lively.ended[end] < 3 {
			t.Errorf("only %d and %d ended by %d", littered.ended[end], lively.ended[end], end)
		}
	}
}

// One pair alone is left out, at each place at which there is one; and one store alone.
func TestPromise11OneAloneIsTheSame(t *testing.T) {
	pairs, stores := 0, 0
	for seed := range uint64(300) {
		p := litteredProgram(seed)
		code := p.Classes[0].Methods[0].Code
		for _, at := range impl.Peeps(code) {
			pairs++
			checkSameHeard(t, p, func(code []impl.Insn) []impl.Insn {
				peeped, _ := impl.PeepAt(code, at)
				return peeped
			}, 200)
		}
		for _, at := range impl.DeadStores(code) {
			stores++
			checkSameHeard(t, p, func(code []impl.Insn) []impl.Insn {
				code = slices.Clone(code)
				code[at] = impl.Unstored(code)[at]
				return code
			}, 200)
		}
	}
	if pairs < 500 || stores < 500 {
		t.Errorf("only %d pairs, %d stores", pairs, stores)
	}
}

// Of each pair that is come to one step is left out; of stores none.
func TestPromise11HowManyStepsFewer(t *testing.T) {
	checkFewer(t, impl.PeepedAll, map[string]int64{
		"a1 t":               0,
		"a3 i a1 t":          1,
		"a3 a0 d t":          1,
		"a3 a1 d t":          0,
		"a3 i m i b0 i a1 t": 3,
		"a3 a4 j j j j e t":  2,
		"a3 a4 j j j e t":    1,
		"a0 l3 s a1 t":       1,
		"a5 l4 a7 s a1 t":    1,
		"a3 i a1 l1 a1 t":    2,
		"a3 i a0 l5 s a1 t":  2,
		"k3 a3 i a1 t":       0,
		"a3 c1 b1 s b1 a1 e h c1 l13 a3 i k2 a0 t": 2,
		// It ends in between, as it did.
		"a3 i a1 a0 g t":    1,
		"a3 i m q0,0 t":     1,
		"m i m o0,0 i a1 t": 1,
	})
	checkFewer(t, impl.Unstored, map[string]int64{
		"a3 c1 a1 t":             0,
		"a3 c1 b1 t":             0,
		"a3 c1 a4 c1 b1 t":       0,
		"a3 c1 b1 l6 a4 c1 b1 t": 0,
	})
	checkFewer(t, peepTurns()[2], map[string]int64{
		"a3 c1 a1 t":             1,
		"a3 c1 b1 t":             0,
		"a3 c1 a4 c1 b1 t":       1,
		"a3 h c1 t":              1,
		"a3 c1 b1 c2 a1 t":       1,
		"a3 c1 a4 c2 a5 c3 a1 t": 3,
	})
}
