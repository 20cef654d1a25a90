package tests

import (
	"fmt"
	"slices"
	"strings"
	"testing"

	"loop.example/g00334/impl"
)

// drawnWays draws codes of loads, stores and turns, with few others between.
func drawnWays(seed uint64, n int) []impl.Insn {
	next := drawer(seed)
	locals := 1 + next(8)
	code := make([]impl.Insn, n)
	for k := range code {
		switch next(8) {
		case 0, 1:
			code[k] = impl.Insn{Op: impl.OpLoad, A: int64(next(locals))}
		case 2, 3:
			code[k] = impl.Insn{Op: impl.OpStore, A: int64(next(locals))}
		case 4:
			code[k] = impl.Insn{Op: impl.OpJump, A: int64(next(n))}
		case 5:
			code[k] = impl.Insn{Op: impl.OpZero, A: int64(next(n))}
		case 6:
			code[k] = impl.Insn{Op: impl.OpGive}
		default:
			code[k] = drawnInsn(next, lone())
			if goes(code[k]) {
				code[k].A = int64(next(n))
			}
		}
	}
	return code
}

// TestPromise9EveryShortCode goes through all codes of up to four steps out of a few.
func TestPromise9EveryShortCode(t *testing.T) {
	rows := [][]impl.Insn{{}}
	for n := range int64(4) {
		var longer [][]impl.Insn
		for _, row := range rows {
			steps := codeOfInsns("b0 c0 t d")
			for to := range int64(4) {
				steps = append(steps, impl.Insn{Op: impl.OpJump, A: to}, impl.Insn{Op: impl.OpZero, A: to})
			}
			for _, i := range steps {
				longer = append(longer, append(slices.Clone(row), i))
			}
		}
		rows = longer
		for _, code := range rows {
			if !slices.ContainsFunc(code, func(i impl.Insn) bool { return goes(i) && i.A > n }) {
				checkFlow(t, code)
			}
		}
	}
}

func TestPromise9DrawnCodes(t *testing.T) {
	unreached, live := 0, 0
	for seed := range uint64(2500) {
		code := drawnWays(seed, 1+int(seed%40))
		checkFlow(t, code)
		unreached += len(code) - len(impl.Reached(code))
		for _, set := range impl.LiveIn(code) {
			live += int(set) % 2
		}
		if seed < 150 {
			checkStraight(t, code)
		}
	}
	if unreached < 1000 || live < 1000 {
		t.Errorf("only %d are not reached, %d times local 0 is live", unreached, live)
	}
}

// codeIn is the code that a frame is in; nothing where there is none.
func codeIn(p impl.Program, f impl.Frame) []impl.Insn {
	own, _ := impl.MethodOf(p, f.Class, f.Name)
	return own.Code
}

// checkWay asks of one step that a machine did where it began and where it went.
func checkWay(t *testing.T, p impl.Program, m impl.Machine, after impl.Machine) {
	t.Helper()
	for at, f := range m.Frames {
		if !slices.Contains(impl.Reached(codeIn(p, f)), f.At) {
			t.Fatalf("frame %d of %v is at what is not Reached, of %s", at, m, impl.ShowProgram(p))
		}
	}
	if after.End != impl.EnRuns {
		return
	}
	for at, f := range after.Frames {
		if at == len(m.Frames) {
			if f.At != 0 {
				t.Fatalf("a call begins at %d", f.At)
			}
			continue
		}
		before := m.Frames[at]
		if before.At != f.At && !slices.Contains(impl.Nexts(codeIn(p, f), before.At), f.At) {
			t.Fatalf("from %d to %d, which is none of Nexts, in %v, of %s", before.At, f.At, m, impl.ShowProgram(p))
		}
	}
}

// behindLast is true where the last frame has come behind its last step: that one does no step any more.
func behindLast(p impl.Program, m impl.Machine) bool {
	if len(m.Frames) == 0 {
		return false
	}
	top := m.Frames[len(m.Frames)-1]
	return top.At == int64(len(codeIn(p, top)))
}

func TestPromise9WhatRunsIsReached(t *testing.T) {
	stepped, jumped, unreached, off := 0, 0, 0, 0
	for seed := range uint64(700) {
		p := livelyProgram(seed)
		m, _ := impl.Started(p)
		for range 60 {
			after := impl.Stepped(p, m)
			if m.End != impl.EnRuns || behindLast(p, after) {
				off += 1 - int(min(1, m.End))
				break
			}
			checkWay(t, p, m, after)
			if i, is := stepNext(p, m); is && goes(i) {
				jumped++
			}
			stepped++
			m = after
		}
		main := codeIn(p, impl.Frame{})
		unreached += min(1, len(main)-len(impl.Reached(main)))
	}
	if stepped < 5000 || jumped < 500 || unreached < 50 || off < 1 {
		t.Errorf("only %d steps, %d jumps, %d with some that are not reached, %d behind the last", stepped, jumped, unreached, off)
	}
}

// anew writes each local that LiveIn does not have anew, in all frames; those that wait go on behind where they are.
func anew(p impl.Program, m impl.Machine, next func(int) int) (impl.Machine, int) {
	changed := 0
	other := twinMachine(m)
	for k, f := range other.Frames {
		live := impl.LiveIn(codeIn(p, f))
		at := f.At
		if k < len(other.Frames)-1 {
			at++
		}
		for local := range f.Locals {
			// Behind the last step nothing is loaded any more.
			if at >= 0 && at < int64(len(live)) && live[at]>>local%2 == 1 {
				continue
			}
			f.Locals[local] = []impl.Value{number(int64(next(1000)) - 500), null(), object(int64(next(60)))}[next(3)]
			changed++
		}
	}
	return other, changed
}

// checkAnew runs a machine and another one whose locals are written anew ahead of each step, and says how many were.
func checkAnew(t *testing.T, p impl.Program, m impl.Machine, n int, next func(int) int) int {
	t.Helper()
	all := 0
	other := m
	for range n {
		fresh, changed := anew(p, other, next)
		all += changed
		m, other = impl.Stepped(p, m), impl.Stepped(p, fresh)
		if impl.Heard(m) != impl.Heard(other) || len(m.Frames) != len(other.Frames) || len(m.Heap) != len(other.Heap) {
			t.Fatalf("heard %q, %q of %v, with locals written anew %v, of %s", impl.Heard(m), impl.Heard(other), m, fresh, impl.ShowProgram(p))
		}
		for at := range m.Frames {
			if a, b := m.Frames[at], other.Frames[at]; a.At != b.At || !slices.Equal(a.Stack, b.Stack) {
				t.Fatalf("frame %d is %v, with locals written anew %v, of %s", at, a, b, impl.ShowProgram(p))
			}
		}
		if m.End != impl.EnRuns {
			break
		}
	}
	return all
}

func TestPromise9WhatIsNotLiveMayBeAnything(t *testing.T) {
	changed := 0
	for seed := range uint64(500) {
		p := livelyProgram(seed)
		m, _ := impl.Started(p)
		changed += checkAnew(t, p, m, 80, drawer(seed))
	}
	for seed := range uint64(300) {
		p := muddled(seed)
		for k := range uint64(6) {
			changed += checkAnew(t, p, drawnMachine(seed*7+k, p), 12, drawer(k))
		}
	}
	if changed < 20000 {
		t.Errorf("only %d are written anew", changed)
	}
}

// A local that is live can't be written anew without being heard: LiveIn has no more than it needs, where the load is come to.
func TestPromise9WhatIsLiveIsHeard(t *testing.T) {
	for local := range 8 {
		for _, text := range []string{"L s a0 t", "d a1 l0 L s a0 t", "a0 l3 t L s a0 t", "k2 t L s a0 t", "a1 i L S L s a0 t"} {
			text = strings.NewReplacer("L", fmt.Sprint("b", local), "S", fmt.Sprint("c", local)).Replace(text)
			p := coded(t, 0, 0, text)
			m, _ := impl.Started(p)
			m.Frames[0].Locals[0] = number(0)
			m.Frames[0].Stack = values("1 2")
			other := twinMachine(m)
			other.Frames[0].Locals[local] = number(7)
			for range 12 {
				m, other = impl.Stepped(p, m), impl.Stepped(p, other)
			}
			live := impl.LiveIn(codeOf(t, text))[0]
			if live != 1<<local || impl.Heard(m) == impl.Heard(other) || m.End != impl.EnGave {
				t.Errorf("%q: live %d, heard %q and %q", text, live, impl.Heard(m), impl.Heard(other))
			}
		}
	}
}

// Each of two ways loads another local; ahead of each step all that are not live are written anew.
func TestPromise9OneOfTwoWays(t *testing.T) {
	for text, heard := range map[string][2]string{
		"b1 l4 b2 k5 b3 s a0 t":       {"2;1,0", "3;1,0"},
		"a9 c4 b1 l6 b4 k7 b5 s a0 t": {"9;1,0", "5;1,0"},
	} {
		p := coded(t, 0, 0, text)
		code := codeOf(t, text)
		for way, want := range heard {
			m, _ := impl.Started(p)
			for local := range 8 {
				m.Frames[0].Locals[local] = number(int64(local))
			}
			m.Frames[0].Locals[1] = number(int64(1 - way))
			next := drawer(uint64(way))
			for m.End == impl.EnRuns {
				fresh, _ := anew(p, m, next)
				m = impl.Stepped(p, fresh)
			}
			if got := impl.Heard(m); got != want {
				t.Errorf("%q, way %d: heard %q, want %q, live %v", text, way, got, want, impl.LiveIn(code))
			}
		}
	}
}
