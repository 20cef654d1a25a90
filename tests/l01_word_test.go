package tests

import (
	"math"
	"math/big"
	"testing"

	"loop.example/g00334/impl"
)

const (
	least    = -2147483648
	greatest = 2147483647
	round    = 4294967296
)

// wordSamples are numbers at and around every edge of chapter 1, words or not, and ordinary ones between.
func wordSamples() []int64 {
	centres := []int64{0, 7, 100, 46341, 65536, 1000003, 1 << 30, 1 << 31, 3 << 30, round, 3 << 31, 1 << 33, 1 << 47, 1 << 62}
	samples := []int64{math.MinInt64, math.MinInt64 + 1, math.MaxInt64, math.MaxInt64 - 1}
	for _, c := range centres {
		for d := int64(-2); d <= 2; d++ {
			samples = append(samples, c+d, -c+d)
		}
	}
	mixed := uint64(1)
	for range 40 {
		mixed = mixed*6364136223846793005 + 1442695040888963407
		samples = append(samples, int64(mixed)>>32, int64(mixed))
	}
	return samples
}

func isWord(n int64) bool { return n >= least && n <= greatest }

// wrapped is worked out by numbers of any size, so that nothing goes round ahead of its time.
func wrapped(n *big.Int) int64 {
	rest := new(big.Int).Mod(n, big.NewInt(round)).Int64()
	if rest > greatest {
		rest -= round
	}
	return rest
}

// pairAnswer is one of Plus, Minus and Times beside what it is of numbers that do not go round.
type pairAnswer struct {
	name  string
	asked func(int64, int64) int64
	plain func(z, a, b *big.Int) *big.Int
}

func pairAnswers() []pairAnswer {
	return []pairAnswer{
		{"Plus", impl.Plus, (*big.Int).Add},
		{"Minus", impl.Minus, (*big.Int).Sub},
		{"Times", impl.Times, (*big.Int).Mul},
	}
}

func TestPromise1WordOk(t *testing.T) {
	for n, want := range map[int64]bool{
		0: true, 1: true, -1: true, 127: true,
		least: true, greatest: true, least + 1: true, greatest - 1: true,
		least - 1: false, greatest + 1: false, round: false, -round: false, round + 5: false,
		math.MinInt64: false, math.MaxInt64: false,
	} {
		if got := impl.WordOk(n); got != want {
			t.Errorf("WordOk(%d) = %v, want %v", n, got, want)
		}
	}
	for _, n := range wordSamples() {
		if got := impl.WordOk(n); got != isWord(n) {
			t.Errorf("WordOk(%d) = %v", n, got)
		}
	}
}

func TestPromise1Wrap(t *testing.T) {
	for n, want := range map[int64]int64{
		0: 0, 5: 5, -5: -5, least: least, greatest: greatest,
		greatest + 1: least, least - 1: greatest,
		round: 0, -round: 0, 2 * round: 0, -2 * round: 0, 1 << 62: 0, -(1 << 62): 0,
		round + 5: 5, round - 1: -1, -round + 1: 1, -round - 1: -1, 3 * round / 2: least, -3 * round / 2: least,
		math.MinInt64: 0, math.MinInt64 + 1: 1, math.MaxInt64: -1, math.MaxInt64 - 1: -2,
	} {
		if got := impl.Wrap(n); got != want {
			t.Errorf("Wrap(%d) = %d, want %d", n, got, want)
		}
	}
	for _, n := range wordSamples() {
		got := impl.Wrap(n)
		if want := wrapped(big.NewInt(n)); got != want || !impl.WordOk(got) {
			t.Errorf("Wrap(%d) = %d, want %d", n, got, want)
		}
	}
}

func TestPromise1GoesRound(t *testing.T) {
	for _, c := range []struct {
		name      string
		asked     func(int64, int64) int64
		a, b, out int64
	}{
		{"Plus", impl.Plus, 2, 3, 5},
		{"Plus", impl.Plus, -2, -3, -5},
		{"Plus", impl.Plus, greatest, 1, least},
		{"Plus", impl.Plus, least, -1, greatest},
		{"Plus", impl.Plus, greatest, greatest, -2},
		{"Plus", impl.Plus, least, least, 0},
		{"Plus", impl.Plus, least, greatest, -1},
		{"Plus", impl.Plus, greatest, 0, greatest},
		{"Minus", impl.Minus, 2, 3, -1},
		{"Minus", impl.Minus, 3, 2, 1},
		{"Minus", impl.Minus, least, 1, greatest},
		{"Minus", impl.Minus, greatest, -1, least},
		{"Minus", impl.Minus, 0, least, least},
		{"Minus", impl.Minus, greatest, least, -1},
		{"Minus", impl.Minus, least, greatest, 1},
		{"Minus", impl.Minus, least, least, 0},
		{"Times", impl.Times, 6, 7, 42},
		{"Times", impl.Times, -6, 7, -42},
		{"Times", impl.Times, 65536, 65536, 0},
		{"Times", impl.Times, 65536, 32768, least},
		{"Times", impl.Times, 46341, 46341, -2147479015},
		{"Times", impl.Times, least, -1, least},
		{"Times", impl.Times, least, least, 0},
		{"Times", impl.Times, greatest, greatest, 1},
		{"Times", impl.Times, least, greatest, least},
		{"Times", impl.Times, greatest, 2, -2},
	} {
		if got := c.asked(c.a, c.b); got != c.out {
			t.Errorf("%s(%d, %d) = %d, want %d", c.name, c.a, c.b, got, c.out)
		}
	}
}

func TestPromise1OfAllPairs(t *testing.T) {
	for _, p := range pairAnswers() {
		for _, a := range wordSamples() {
			for _, b := range wordSamples() {
				want := int64(0)
				if isWord(a) && isWord(b) {
					want = wrapped(p.plain(new(big.Int), big.NewInt(a), big.NewInt(b)))
				}
				if got := p.asked(a, b); got != want {
					t.Fatalf("%s(%d, %d) = %d, want %d", p.name, a, b, got, want)
				}
			}
		}
	}
}

func TestPromise1NoWord(t *testing.T) {
	for _, p := range pairAnswers() {
		for _, no := range []int64{least - 1, greatest + 1, round + 1, math.MinInt64, math.MaxInt64} {
			for _, n := range []int64{-3, 1, 5, least, greatest, no} {
				if got := p.asked(no, n); got != 0 {
					t.Errorf("%s(%d, %d) = %d, want 0", p.name, no, n, got)
				}
				if got := p.asked(n, no); got != 0 {
					t.Errorf("%s(%d, %d) = %d, want 0", p.name, n, no, got)
				}
			}
		}
	}
}

func TestPromise1Over(t *testing.T) {
	for _, c := range []struct {
		a, b, out int64
		is        bool
	}{
		{42, 6, 7, true},
		{7, 2, 3, true},
		{-7, 2, -3, true},
		{7, -2, -3, true},
		{-7, -2, 3, true},
		{1, 2, 0, true},
		{-1, 2, 0, true},
		{1, -2, 0, true},
		{0, -5, 0, true},
		{least, -1, least, true},
		{least, 1, least, true},
		{greatest, -1, -greatest, true},
		{least, 2, -1073741824, true},
		{least, greatest, -1, true},
		{greatest, least, 0, true},
		{least, least, 1, true},
		{0, 0, 0, false},
		{1, 0, 0, false},
		{least, 0, 0, false},
		{greatest + 1, 0, 0, false},
		{greatest + 1, 1, 0, false},
		{least - 1, 1, 0, false},
		{1, greatest + 1, 0, false},
		{1, least - 1, 0, false},
		{greatest, greatest + 1, 0, false},
		{5, round, 0, false},
		{5, round + 1, 0, false},
		{round + 5, 5, 0, false},
		{math.MinInt64, -1, 0, false},
		{math.MaxInt64, math.MaxInt64, 0, false},
	} {
		if got, is := impl.Over(c.a, c.b); got != c.out || is != c.is {
			t.Errorf("Over(%d, %d) = %d, %v, want %d, %v", c.a, c.b, got, is, c.out, c.is)
		}
	}
}

func TestPromise1OverOfAllPairs(t *testing.T) {
	for _, a := range wordSamples() {
		for _, b := range wordSamples() {
			want, wantIs := int64(0), isWord(a) && isWord(b) && b != 0
			if wantIs {
				want = wrapped(new(big.Int).Quo(big.NewInt(a), big.NewInt(b)))
			}
			if got, is := impl.Over(a, b); got != want || is != wantIs {
				t.Fatalf("Over(%d, %d) = %d, %v, want %d, %v", a, b, got, is, want, wantIs)
			}
		}
	}
}

// A panic inside fails the test by itself; asked twice, all must answer the same.
func TestPromise21Words(t *testing.T) {
	for _, a := range wordSamples() {
		if impl.WordOk(a) != impl.WordOk(a) || impl.Wrap(a) != impl.Wrap(a) {
			t.Fatalf("%d: answered otherwise when asked again", a)
		}
		for _, b := range wordSamples() {
			for _, p := range pairAnswers() {
				if got := p.asked(a, b); got != p.asked(a, b) || !impl.WordOk(got) {
					t.Fatalf("%s(%d, %d) = %d: no word, or not again", p.name, a, b, got)
				}
			}
			q, is := impl.Over(a, b)
			r, also := impl.Over(a, b)
			if q != r || is != also || !impl.WordOk(q) {
				t.Fatalf("Over(%d, %d) = %d, %v: no word, or not again", a, b, q, is)
			}
		}
	}
}
