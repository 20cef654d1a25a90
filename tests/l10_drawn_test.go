package tests

import (
	"slices"
	"testing"

	"loop.example/g00334/impl"
)

// drawnConstants draws codes of words that are pushed, stored, loaded and worked with, with few turns between.
func drawnConstants(seed uint64, n int) []impl.Insn {
	next := drawer(seed)
	locals, words := 1+next(4), 1+next(4)
	turning := 3 + next(14)
	code := make([]impl.Insn, n)
	for k := range code {
		switch next(12) {
		case 0, 1, 2, 3:
			code[k] = impl.Insn{Op: impl.OpPush, A: int64(next(words))}
		case 4, 5:
			code[k] = impl.Insn{Op: impl.OpLoad, A: int64(next(locals))}
		case 6, 7:
			code[k] = impl.Insn{Op: impl.OpStore, A: int64(next(locals))}
		case 8, 9:
			code[k] = impl.Insn{Op: int64(impl.OpAdd + next(4))}
		default:
			code[k] = []impl.Insn{{Op: impl.OpDup}, {Op: impl.OpPop}, {Op: impl.OpSay}, {Op: impl.OpNull}, {Op: impl.OpNew, A: 1}}[next(5)]
		}
		if next(turning) == 0 {
			code[k] = []impl.Insn{{Op: impl.OpJump, A: int64(next(n))}, {Op: impl.OpZero, A: int64(next(n))}, {Op: impl.OpZero, A: int64(next(n))}, {Op: impl.OpGive}}[next(4)]
		}
	}
	return code
}

// everyCode goes through all codes of up to n of these steps and of jumps to each of them.
func everyCode(n int, texts string, jumps bool, look func(code []impl.Insn)) {
	some := codeOfInsns(texts)
	for to := range int64(n) {
		if jumps {
			some = append(some, impl.Insn{Op: impl.OpJump, A: to}, impl.Insn{Op: impl.OpZero, A: to})
		}
	}
	rows := [][]impl.Insn{{}}
	for range n {
		var longer [][]impl.Insn
		for _, row := range rows {
			for _, i := range some {
				longer = append(longer, append(slices.Clone(row), i))
			}
		}
		rows = longer
		for _, code := range rows {
			if impl.CodeOk(code) {
				look(code)
			}
		}
	}
}

func TestPromise10EveryShortCode(t *testing.T) {
	known, folded := 0, 0
	look := func(code []impl.Insn) {
		checkFold(t, code)
		for _, row := range impl.Known(code) {
			if row[0] != impl.Unknown {
				known++
			}
		}
		folded += len(threes(code))
	}
	everyCode(4, "a1 a2 b0 c0 b1 c1", true, look)
	everyCode(5, "a6 a0 b0 c0 g l3", false, look)
	if known < 2000 || folded < 80 {
		t.Errorf("only %d are known, %d threes are there", known, folded)
	}
}

func TestPromise10DrawnCodes(t *testing.T) {
	known, joined, unreached, loaded, many := 0, 0, 0, 0, 0
	for seed := range uint64(4000) {
		code := drawnConstants(seed, 1+int(seed%40))
		checkFold(t, code)
		for at, row := range impl.Known(code) {
			for _, word := range row[:4] {
				if word == impl.Unknown {
					continue
				}
				known++
				if at > 0 && slices.Contains(leadersTold(code), int64(at)) {
					joined++
				}
			}
		}
		unreached += len(code) - len(impl.Reached(code))
		all := impl.FoldedAll(code)
		if len(threes(impl.Loaded(code))) > len(threes(code)) {
			loaded++
		}
		if !slices.Equal(all, impl.Folded(impl.Loaded(code))) {
			many++
		}
	}
	if known < 5000 || joined < 500 || unreached < 1000 || loaded < 50 || many < 50 {
		t.Errorf("only %d are known, %d of them where jumps go to, %d are not reached, %d codes fold more by loading, %d fold more than once", known, joined, unreached, loaded, many)
	}
}

// Ways are gone along in no order that could be seen: the same code has the same answers however often it is asked for.
func TestPromise21FoldAnswersTheSameAgain(t *testing.T) {
	for seed := range uint64(60) {
		code := drawnConstants(seed*31, 40)
		known, codes := impl.Known(code), foldAnswers(code)
		for range 20 {
			if !slices.EqualFunc(impl.Known(code), known, slices.Equal) || !slices.EqualFunc(foldAnswers(code), codes, slices.Equal) {
				t.Fatalf("of %q not the same again", impl.ShowCode(code))
			}
		}
	}
}

// A counter draws codes of statements that leave the Stack empty, over numbers in locals 1 to 4; jumps go to where a statement begins.
type counter struct {
	next   func(below int) int
	insns  []impl.Insn
	begins []int64
}

func (c *counter) add(insns ...impl.Insn) { c.insns = append(c.insns, insns...) }

func (c *counter) local() int64 { return int64(1 + c.next(4)) }

func (c *counter) push() impl.Insn {
	return impl.Insn{Op: impl.OpPush, A: []int64{0, 1, 1, 2, 3, -1, least, greatest}[c.next(8)]}
}

func (c *counter) load() impl.Insn { return impl.Insn{Op: impl.OpLoad, A: c.local()} }

func (c *counter) store() impl.Insn { return impl.Insn{Op: impl.OpStore, A: c.local()} }

func (c *counter) pushOrLoad() impl.Insn {
	if c.next(2) == 0 {
		return c.push()
	}
	return c.load()
}

func (c *counter) work() impl.Insn { return impl.Insn{Op: int64(impl.OpAdd + c.next(4))} }

// statement leaves where a jump goes to for later.
func (c *counter) statement() {
	c.begins = append(c.begins, int64(len(c.insns)))
	switch c.next(9) {
	case 0, 1:
		c.add(c.push(), c.store())
	case 2:
		c.add(c.load(), c.store())
	case 3:
		c.add(c.pushOrLoad(), c.pushOrLoad(), c.work(), c.store())
	case 4:
		c.add(c.pushOrLoad(), c.pushOrLoad(), c.work(), impl.Insn{Op: impl.OpSay})
	case 5:
		c.add(c.load(), impl.Insn{Op: impl.OpSay})
	case 6:
		c.add(c.push(), impl.Insn{Op: impl.OpDup}, c.store(), c.store())
	case 7:
		c.add(c.pushOrLoad(), impl.Insn{Op: impl.OpZero})
	case 8:
		down := c.load()
		c.add(down, impl.Insn{Op: impl.OpPush, A: 1}, impl.Insn{Op: impl.OpSub}, impl.Insn{Op: impl.OpStore, A: down.A}, down, impl.Insn{Op: impl.OpZero})
	}
	if c.next(12) == 0 {
		c.add(impl.Insn{Op: impl.OpJump})
	}
}

// countingCode is accepted always, as method 0 of a lone class.
func countingCode(seed uint64) []impl.Insn {
	c := &counter{next: drawer(seed)}
	for local := int64(1); local <= 4; local++ {
		c.add(c.push(), impl.Insn{Op: impl.OpStore, A: local})
	}
	for len(c.insns) < 12+c.next(18) {
		c.statement()
	}
	c.begins = append(c.begins, int64(len(c.insns)))
	c.add(c.load(), impl.Insn{Op: impl.OpGive})
	for at := range c.insns {
		if goes(c.insns[at]) {
			c.insns[at].A = c.begins[c.next(len(c.begins))]
		}
	}
	return c.insns
}

func countingProgram(seed uint64) impl.Program {
	p := lone()
	p.Classes[0].Methods[0].Code = countingCode(seed)
	return p
}

// A tally counts what a run has come upon.
type tally struct{ steps, held, again int }

// checkHolds runs a machine and asks ahead of each step, of each frame, whether what is Known of a local is what it has.
func checkHolds(t *testing.T, p impl.Program, n int, all *tally) {
	t.Helper()
	known := map[[2]int64][][]int64{}
	for _, at := range methodsOf(p) {
		own, _ := impl.MethodOf(p, at[0], at[1])
		known[at] = impl.Known(own.Code)
	}
	seen := map[int64]bool{}
	m, _ := impl.Started(p)
	for range n {
		if m.End != impl.EnRuns || behindLast(p, m) {
			return
		}
		all.steps++
		for at, f := range m.Frames {
			for local, word := range known[[2]int64{f.Class, f.Name}][f.At] {
				if word == impl.Unknown {
					continue
				}
				if f.Locals[local] != number(word) {
					t.Fatalf("frame %d is at %d, local %d is known as %d, and is %v, of %s", at, f.At, local, word, f.Locals[local], impl.ShowProgram(p))
				}
				all.held++
				if at == 0 && seen[f.At] {
					all.again++
				}
			}
		}
		seen[m.Frames[0].At] = true
		m = impl.Stepped(p, m)
	}
}

func TestPromise10WhatIsKnownHolds(t *testing.T) {
	var counting, lively, loose tally
	for seed := range uint64(600) {
		checkHolds(t, countingProgram(seed), 150, &counting)
		checkHolds(t, livelyProgram(seed), 60, &lively)
		p := lone()
		p.Classes[0].Methods[0].Code = drawnConstants(seed, 1+int(seed%40))
		checkHolds(t, p, 60, &loose)
	}
	if counting.steps < 10000 || counting.held < 10000 || counting.again < 3000 {
		t.Errorf("only %v of counting programs", counting)
	}
	if lively.steps < 5000 || lively.held < 500 || loose.steps < 1000 || loose.held < 100 {
		t.Errorf("only %v of lively programs, %v of others", lively, loose)
	}
}

// turnedProgram has all its codes turned.
func turnedProgram(p impl.Program, turn func([]impl.Insn) []impl.Insn) impl.Program {
	p = twin(p)
	for k := range p.Classes {
		for j := range p.Classes[k].Methods {
			m := &p.Classes[k].Methods[j]
			m.Code = turn(m.Code)
		}
	}
	return p
}

// checkSameHeard says whether the turned one needed fewer steps.
func checkSameHeard(t *testing.T, p impl.Program, turn func([]impl.Insn) []impl.Insn, n int64) bool {
	t.Helper()
	q := turnedProgram(p, turn)
	if !impl.Sound(q) {
		t.Fatalf("what is turned is not Sound: %s, of %s", impl.ShowProgram(q), impl.ShowProgram(p))
	}
	a, b := impl.Ran(p, n), impl.Ran(q, n)
	if a.End == impl.EnRuns {
		if len(b.Said) < len(a.Said) || !slices.Equal(b.Said[:len(a.Said)], a.Said) {
			t.Fatalf("heard %q, turned %q, of %s", impl.Heard(a), impl.Heard(b), impl.ShowProgram(p))
		}
		return false
	}
	if impl.Heard(a) != impl.Heard(b) || impl.Cost(q, n) > impl.Cost(p, n) {
		t.Fatalf("heard %q in %d, turned %q in %d, of %s", impl.Heard(a), impl.Cost(p, n), impl.Heard(b), impl.Cost(q, n), impl.ShowProgram(p))
	}
	return impl.Cost(q, n) < impl.Cost(p, n)
}

func TestPromise10WhatIsFoldedIsTheSame(t *testing.T) {
	ended, fewer, sound := map[int64]int{}, 0, 0
	look := func(p impl.Program) {
		for _, n := range []int64{40, 600} {
			if checkSameHeard(t, p, impl.FoldedAll, n) {
				fewer++
			}
		}
		ended[impl.Ran(p, 600).End]++
	}
	for seed := range uint64(1500) {
		p := countingProgram(seed)
		if !impl.Sound(p) {
			t.Fatalf("%s is not Sound", impl.ShowProgram(p))
		}
		look(p)
		if p = livelyProgram(seed); impl.Sound(p) {
			sound++
			look(p)
		}
	}
	for end := int64(impl.EnRuns); end < impl.EnStuck; end++ {
		if ended[end] < 3 {
			t.Errorf("only %d ended by %d", ended[end], end)
		}
	}
	if fewer < 200 || sound < 100 {
		t.Errorf("only %d need fewer steps, %d lively ones are Sound", fewer, sound)
	}
}

// checkFewer runs each code that a test wrote as method 0 of class 0, beside itself turned, which needs so many steps fewer.
func checkFewer(t *testing.T, turn func([]impl.Insn) []impl.Insn, rows map[string]int64) {
	t.Helper()
	for text, fewer := range rows {
		p := coded(t, 0, 0, text)
		q := turnedProgram(p, turn)
		if a, b := impl.Ran(p, 500), impl.Ran(q, 500); impl.Heard(a) != impl.Heard(b) || a.End == impl.EnRuns {
			t.Errorf("%q: heard %q, turned %q", text, impl.Heard(a), impl.Heard(b))
		}
		if got := impl.Cost(p, 500) - impl.Cost(q, 500); got != fewer {
			t.Errorf("%q: %d steps fewer, want %d", text, got, fewer)
		}
	}
}

// Just as many steps fewer as threes are come to: of each three one is left out.
func TestPromise10HowManyStepsFewer(t *testing.T) {
	checkFewer(t, impl.FoldedAll, map[string]int64{
		"a3 a4 d t":           1,
		"a3 a4 d s a5 a6 d t": 2,
		"a3 c1 b1 a4 d t":     1,
		"a3 c1 b1 t":          0,
		"k4 a3 a4 d a1 t":     0,
		"a3 c2 b2 a1 e h c2 s a3 a4 d s b2 l15 k2 a0 t": 3,
		"a3 a0 g t": 0,
	})
}
