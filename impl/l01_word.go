package impl

// word is an int32 because that kind's own arithmetic goes round where words do.
type word int32

func (w word) plus(v word) word { return w + v }

func (w word) minus(v word) word { return w - v }

func (w word) times(v word) word { return w * v }

// over is only for a v other than 0: its callers refuse that one ahead.
func (w word) over(v word) word { return w / v }

func (w word) number() int64 { return int64(w) }

func WordOk(n int64) bool { return Wrap(n) == n }

func Wrap(n int64) int64 { return word(n).number() }

func Plus(a int64, b int64) int64 { return ofWords(a, b, word.plus) }

func Minus(a int64, b int64) int64 { return ofWords(a, b, word.minus) }

func Times(a int64, b int64) int64 { return ofWords(a, b, word.times) }

func Over(a int64, b int64) (int64, bool) {
	if !WordOk(a) {
		return 0, false
	}
	return divided(word(a).over, b)
}

// ofWords refuses here, once for all three, what is no word: a word made of it would be another number.
func ofWords(a int64, b int64, op func(word, word) word) int64 {
	if !WordOk(a) || !WordOk(b) {
		return 0
	}
	return op(word(a), word(b)).number()
}

// divided takes the quotient with its dividend bound already, so that only the divisor is left to be refused.
func divided(quotient func(word) word, by int64) (int64, bool) {
	if !WordOk(by) || by == 0 {
		return 0, false
	}
	return quotient(word(by)).number(), true
}
