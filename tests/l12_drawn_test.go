package tests

import (
	"slices"
	"testing"

	"loop.example/g00334/impl"
)

// drawnTurns draws codes that are mostly jumps, near and far, with few others between.
func drawnTurns(seed uint64, n int) []impl.Insn {
	next := drawer(seed)
	jumping, zeroing, giving := 1+next(8), next(5), next(3)
	near := next(3) == 0
	code := make([]impl.Insn, n)
	for k := range code {
		to := int64(next(n))
		if near || next(4) == 0 {
			to = int64(max(0, min(n-1, k-2+next(6))))
		}
		switch draw := next(12); {
		case draw < jumping:
			code[k] = impl.Insn{Op: impl.OpJump, A: to}
		case draw < jumping+zeroing:
			code[k] = impl.Insn{Op: impl.OpZero, A: to}
		case draw < jumping+zeroing+giving:
			code[k] = impl.Insn{Op: impl.OpGive}
		default:
			code[k] = drawnInsn(next, lone())
			if goes(code[k]) {
				code[k].A = to
			}
		}
	}
	return code
}

// A turned counts what codes have come upon.
type turned struct {
	chained, rounds, led, popped, later, unreached, skipped int
	times                                                   [8]int
}

func (all *turned) look(code []impl.Insn) {
	threaded := impl.Threaded(code)
	for at, i := range code {
		if !goes(i) {
			continue
		}
		end := impl.EndUp(code, i.A)
		if end != i.A && code[end].Op != impl.OpJump {
			all.chained++
		}
		if inRound(code, i.A) {
			all.rounds++
		}
		if code[end].Op == impl.OpJump && !inRound(code, i.A) {
			all.led++
		}
		if i.Op == impl.OpZero && threaded[at].Op == impl.OpPop {
			all.popped++
			if i.A != int64(at+1) {
				all.later++
			}
		}
	}
	all.unreached += len(code) - len(impl.Reached(code))
	all.skipped += len(impl.Reached(code)) - len(impl.Stays(code))
	all.times[min(7, timesFewer(code))]++
}

func (all *turned) checkEnough(t *testing.T, least turned) {
	t.Helper()
	if all.chained < least.chained || all.rounds < least.rounds || all.led < least.led || all.popped < least.popped || all.later < least.later || all.unreached < least.unreached || all.skipped < least.skipped {
		t.Errorf("only %+v", *all)
	}
	for k, times := range least.times {
		if all.times[k] < times {
			t.Errorf("only %d become fewer %d times", all.times[k], k)
		}
	}
}

func TestPromise12EveryShortCode(t *testing.T) {
	var all turned
	look := func(code []impl.Insn) {
		checkThread(t, code)
		all.look(code)
	}
	everyCode(4, "s t", true, look)
	everyCode(5, "k0 k1 k2 k3 k4 s l2", false, look)
	everyCode(6, "k1 k3 k5 l2 l4", false, look)
	all.checkEnough(t, turned{chained: 20000, rounds: 20000, led: 10000, popped: 5000, later: 2000, unreached: 30000, skipped: 10000, times: [8]int{1000, 10000, 10000, 500}})
}

func TestPromise12DrawnCodes(t *testing.T) {
	var all turned
	for seed := range uint64(5000) {
		n := 1 + int(seed%40)
		for _, code := range [][]impl.Insn{drawnTurns(seed, n), drawnWays(seed, n)} {
			checkThread(t, code)
			all.look(code)
		}
		if seed < 800 {
			code := impl.PeepedAll(impl.Unstored(impl.FoldedAll(drawnPairs(seed, n))))
			checkThread(t, code)
			all.look(code)
		}
	}
	all.checkEnough(t, turned{chained: 10000, rounds: 5000, led: 1000, popped: 1000, later: 200, unreached: 50000, skipped: 500, times: [8]int{500, 2000, 2000, 10}})
}

// A labelled step has a number of its own; where a jump goes to is such a number, wherever the steps are laid.
type labelled struct {
	insn impl.Insn
	id   int64
}

// A scatterer lays the steps of a code elsewhere, with jumps between, and jumps to jumps.
type scatterer struct {
	next   func(below int) int
	blocks [][]labelled
	ids    int64
	room   int
}

// id is a new one, and takes a step's room.
func (s *scatterer) id() int64 {
	s.ids++
	s.room--
	return s.ids - 1
}

// cut leaves each block with nothing to come behind it.
func (s *scatterer) cut(code []impl.Insn) {
	var block []labelled
	for at, i := range code {
		block = append(block, labelled{i, int64(at)})
		ends := i.Op == impl.OpJump || i.Op == impl.OpGive
		if at+1 == len(code) || s.next(4) != 0 || !ends && s.room == 0 {
			continue
		}
		if !ends {
			block = append(block, labelled{impl.Insn{Op: impl.OpJump, A: int64(at + 1)}, s.id()})
		}
		s.blocks = append(s.blocks, block)
		block = nil
	}
	s.blocks = append(s.blocks, block)
}

func (s *scatterer) jumps() []*impl.Insn {
	var jumps []*impl.Insn
	for _, block := range s.blocks {
		for k := range block {
			if goes(block[k].insn) {
				jumps = append(jumps, &block[k].insn)
			}
		}
	}
	return jumps
}

func (s *scatterer) add(steps ...labelled) { s.blocks = append(s.blocks, steps) }

// detour has a jump go by one more.
func (s *scatterer) detour(jump *impl.Insn) {
	id := s.id()
	s.add(labelled{impl.Insn{Op: impl.OpJump, A: jump.A}, id})
	jump.A = id
}

// trap has a jump go round.
func (s *scatterer) trap(jump *impl.Insn) {
	a, b := s.id(), s.id()
	s.add(labelled{impl.Insn{Op: impl.OpJump, A: b}, a})
	s.add(labelled{impl.Insn{Op: impl.OpJump, A: a}, b})
	jump.A = a
}

// ask has an OpZero go to the next one.
func (s *scatterer) ask() {
	k := s.next(len(s.blocks))
	at := s.next(len(s.blocks[k]))
	push := labelled{impl.Insn{Op: impl.OpPush, A: int64(s.next(2))}, s.id()}
	zero := labelled{impl.Insn{Op: impl.OpZero, A: s.blocks[k][at].id}, s.id()}
	s.blocks[k] = slices.Insert(s.blocks[k], at, push, zero)
}

// waste is what nothing comes to.
func (s *scatterer) waste() {
	s.add(labelled{impl.Insn{Op: impl.OpSay}, s.id()}, labelled{impl.Insn{Op: impl.OpJump, A: int64(s.next(int(s.ids)))}, s.id()})
}

func (s *scatterer) more() {
	jumps := s.jumps()
	switch draw := s.next(20); {
	case draw < 3 && s.room > 1:
		s.ask()
	case draw < 5 && s.room > 1:
		s.waste()
	case draw == 5 && s.room > 1 && len(jumps) > 0:
		s.trap(jumps[s.next(len(jumps))])
	case len(jumps) > 0:
		s.detour(jumps[s.next(len(jumps))])
	}
}

// laid leaves the first block where it is.
func (s *scatterer) laid() []impl.Insn {
	for k := len(s.blocks) - 1; k > 1; k-- {
		j := 1 + s.next(k)
		s.blocks[k], s.blocks[j] = s.blocks[j], s.blocks[k]
	}
	all := slices.Concat(s.blocks...)
	var code []impl.Insn
	for _, step := range all {
		if goes(step.insn) {
			step.insn.A = int64(slices.IndexFunc(all, func(other labelled) bool { return other.id == step.insn.A }))
		}
		code = append(code, step.insn)
	}
	return code
}

func scattered(seed uint64, code []impl.Insn) []impl.Insn {
	s := &scatterer{next: drawer(seed), ids: int64(len(code)), room: impl.MaxCode - len(code)}
	s.cut(code)
	for s.room > 0 && s.next(12) > 0 {
		s.more()
	}
	return s.laid()
}

func scatteredProgram(seed uint64, p impl.Program) impl.Program {
	return turnedProgram(p, func(code []impl.Insn) []impl.Insn {
		seed += 1000003
		return scattered(seed, code)
	})
}

// threadTurns are all that the chapter makes of a code, alone and one behind the other, and behind what makes jumps.
func threadTurns() []func([]impl.Insn) []impl.Insn {
	return []func([]impl.Insn) []impl.Insn{
		impl.Threaded,
		impl.Swept,
		impl.Tidied,
		func(code []impl.Insn) []impl.Insn { return impl.Threaded(impl.Swept(code)) },
		func(code []impl.Insn) []impl.Insn { return impl.Swept(impl.Threaded(code)) },
		func(code []impl.Insn) []impl.Insn {
			return impl.Tidied(impl.PeepedAll(impl.Unstored(impl.FoldedAll(code))))
		},
	}
}

// A sweptRuns tells what runs of some programs have come upon.
type sweptRuns struct {
	ended map[int64]int
	fewer []int
	codes turned
}

// check wants a program that is Sound.
func (all *sweptRuns) check(t *testing.T, p impl.Program) {
	t.Helper()
	if !impl.Sound(p) {
		t.Fatalf("%s is not Sound", impl.ShowProgram(p))
	}
	for k, turn := range threadTurns() {
		for _, n := range []int64{30, 400} {
			if checkSameHeard(t, p, turn, n) {
				all.fewer[k]++
			}
		}
	}
	all.ended[impl.Ran(p, 400).End]++
	for _, at := range methodsOf(p) {
		own, _ := impl.MethodOf(p, at[0], at[1])
		checkThread(t, own.Code)
		all.codes.look(own.Code)
	}
}

func TestPromise12WhatIsTidiedIsTheSame(t *testing.T) {
	all := sweptRuns{ended: map[int64]int{}, fewer: make([]int, 6)}
	for seed := range uint64(700) {
		all.check(t, scatteredProgram(seed, countingProgram(seed)))
		all.check(t, scatteredProgram(seed, litteredProgram(seed)))
		if p := livelyProgram(seed); impl.Sound(p) {
			all.check(t, p)
			all.check(t, scatteredProgram(seed, p))
		}
		if seed < 300 {
			all.check(t, litteredProgram(seed))
			all.check(t, turnedProgram(litteredProgram(seed), impl.PeepedAll))
		}
		run := coded(t, 0, 0, runCases()[seed%uint64(len(runCases()))].text)
		if impl.Sound(run) {
			all.check(t, scatteredProgram(seed, run))
		}
	}
	for end := int64(impl.EnRuns); end < impl.EnStuck; end++ {
		if all.ended[end] < 20 {
			t.Errorf("only %d ended by %d", all.ended[end], end)
		}
	}
	for k, fewer := range all.fewer {
		if fewer < 500 {
			t.Errorf("only %d of turn %d need fewer steps", fewer, k)
		}
	}
	all.codes.checkEnough(t, turned{chained: 5000, rounds: 1000, led: 200, popped: 500, later: 150, unreached: 10000, skipped: 1000, times: [8]int{300, 500, 500, 20}})
}

// Of each OpJump on a way but the last one a step is left out by threading; of each to the next one by sweeping.
func TestPromise12HowManyStepsFewer(t *testing.T) {
	const loop = "a3 c1 k3 b1 s b1 a1 e h c1 l12 k2 a0 t"
	const ended = "k1 a1 a0 g t"
	checkFewer(t, impl.Threaded, map[string]int64{
		"a1 t":                      0,
		"k1 a1 t":                   0,
		"k2 m a1 t":                 0,
		"k2 m k4 m a1 t":            1,
		"k1 k2 k3 a1 t":             2,
		"a0 l5 a7 s m k7 m a1 t":    1,
		"a1 l5 a7 s k7 k8 m m a1 t": 0,
		"a1 l2 a1 t":                0,
		loop:                        2,
		ended:                       0,
	})
	checkFewer(t, impl.Swept, map[string]int64{
		"a1 t":           0,
		"k1 a1 t":        1,
		"k2 m a1 t":      0,
		"k2 m k4 m a1 t": 0,
		"k1 k2 k3 a1 t":  3,
		"a1 l2 a1 t":     0,
		loop:             3,
		ended:            1,
	})
	checkFewer(t, impl.Tidied, map[string]int64{
		"a1 t":            0,
		"k1 a1 t":         1,
		"k2 m a1 t":       1,
		"k2 m k4 m a1 t":  2,
		"k1 k2 k3 a1 t":   3,
		"a1 l2 a1 t":      0,
		loop:              3,
		ended:             1,
		"k3 a1 t a7 s k1": 0,
	})
}
