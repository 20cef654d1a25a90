package tests

import (
	"regexp"
	"slices"
	"strings"
	"testing"

	"loop.example/g00334/impl"
)

// All patterns of up to five signs, of two letters and the two signs, with all texts of up to six letters, and all of up to four with signs in them.
func TestPromise15MatchesOfAllShort(t *testing.T) {
	texts := append(textsOf("ab", 6), textsOf("ab*?", 4)...)
	many := 0
	for _, pattern := range textsOf("ab*?", 5) {
		for _, text := range texts {
			want := matchedTold(pattern, text)
			if got := impl.Matches(pattern, text); got != want {
				t.Fatalf("Matches(%q, %q) = %v", pattern, text, got)
			}
			if want {
				many++
			}
		}
	}
	if many < 50000 {
		t.Errorf("only %d match", many)
	}
}

// latin has a rune for each byte, so that what goes by runes goes by bytes.
func latin(text string) string {
	var runes []rune
	for at := range len(text) {
		runes = append(runes, rune(text[at]))
	}
	return string(runes)
}

// expressionOf says what a pattern says in words that are not the program's.
func expressionOf(pattern string) *regexp.Regexp {
	expression := regexp.QuoteMeta(latin(pattern))
	expression = strings.ReplaceAll(expression, `\*`, `.*`)
	return regexp.MustCompile(`(?s)\A` + strings.ReplaceAll(expression, `\?`, `.`) + `\z`)
}

// drawnPattern is of n signs, all of few bytes, so that texts have a chance.
func drawnPattern(next func(int) int, n int) string {
	signs := []string{"ab", "ab*", "ab*?", "a*", "a?*", "\x80\xff*", "é?*", "a\n*?", "abcdefg*?", "*?"}[next(10)]
	pattern := make([]byte, n)
	for at := range pattern {
		pattern[at] = signs[next(len(signs))]
	}
	return string(pattern)
}

// drawnText is what the pattern says: some bytes for each star, some of them what else is in the pattern.
func drawnText(next func(int) int, pattern string) string {
	var text []byte
	drawn := func() byte {
		if pattern == "" || next(4) == 0 {
			return byte(next(256))
		}
		return pattern[next(len(pattern))]
	}
	for at := range len(pattern) {
		switch pattern[at] {
		case '*':
			for range next(3) * next(3) {
				text = append(text, drawn())
			}
		case '?':
			text = append(text, drawn())
		default:
			text = append(text, pattern[at])
		}
	}
	return string(text)
}

// nearlyText has one byte more, one less, or another one.
func nearlyText(next func(int) int, text string) string {
	at := next(len(text) + 1)
	if at == len(text) || next(3) == 0 {
		return text[:at] + anyByte([]int{'a', 'b', 0, 255, next(256)}[next(5)]) + text[at:]
	}
	if next(2) == 0 {
		return text[:at] + text[at+1:]
	}
	other := []byte(text)
	other[at] = text[next(len(text))]
	return string(other)
}

func TestPromise15MatchesOfDrawn(t *testing.T) {
	are, not, long := 0, 0, 0
	for seed := range uint64(6000) {
		next := drawer(seed)
		pattern := drawnPattern(next, next(62))
		expression := expressionOf(pattern)
		text := drawnText(next, pattern)
		for n := range 6 {
			want := len(pattern) <= 60 && len(text) <= 60 && expression.MatchString(latin(text))
			if got := impl.Matches(pattern, text); got != want {
				t.Fatalf("Matches(%q, %q) = %v", pattern, text, got)
			}
			if n == 0 && !want && len(pattern) <= 60 && len(text) <= 60 {
				t.Fatalf("%q is not what %q says", text, pattern)
			}
			switch {
			case len(pattern) > 60 || len(text) > 60:
				long++
			case want:
				are++
			default:
				not++
			}
			text = nearlyText(next, text)
		}
	}
	if are < 8000 || not < 8000 || long < 1000 {
		t.Errorf("%d match, %d do not, %d are too long", are, not, long)
	}
}

// Of what a pattern is cut into, the one part takes what the text begins with, the other one the rest, or there is no such place.
func TestPromise15MatchesPartByPart(t *testing.T) {
	are := 0
	for seed := range uint64(400) {
		next := drawer(seed)
		pattern := drawnPattern(next, next(25))
		text := drawnText(next, pattern)
		if next(2) == 0 {
			text = nearlyText(next, text)
		}
		if len(text) > 60 {
			continue
		}
		whole := impl.Matches(pattern, text)
		for cut := range len(pattern) + 1 {
			parts := false
			for at := range len(text) + 1 {
				parts = parts || impl.Matches(pattern[:cut], text[:at]) && impl.Matches(pattern[cut:], text[at:])
			}
			if parts != whole {
				t.Fatalf("Matches(%q, %q) = %v, of %q and %q it is %v", pattern, text, whole, pattern[:cut], pattern[cut:], parts)
			}
		}
		if whole {
			are++
		}
	}
	if are < 100 || are > 380 {
		t.Errorf("%d match", are)
	}
}

// drawnLabels are mostly Labels; their texts have few bytes, so that rules have a chance.
func drawnLabels(next func(int) int) impl.Labels {
	l := impl.Labels{Classes: drawnTexts(next, 1+next(6)), Methods: drawnTexts(next, 20)}
	if next(5) > 0 {
		return l
	}
	list := []*[]string{&l.Classes, &l.Methods}[next(2)]
	switch next(5) {
	case 0:
		*list = (*list)[:len(*list)-1]
	case 1:
		*list = append(*list, drawnTexts(next, 6)...)
	case 2:
		(*list)[next(len(*list))] = (*list)[next(len(*list))]
	case 3:
		(*list)[next(len(*list))] = strings.Repeat("a", 29+next(3))
	case 4:
		(*list)[next(len(*list))] = ""
	}
	return l
}

// drawnTexts are n texts that are unlike.
func drawnTexts(next func(int) int, n int) []string {
	var texts []string
	for len(texts) < n {
		text := ""
		for range 1 + next(5) {
			text += []string{"a", "b", "ab", "c", "\xff", "*", "?"}[next(7)]
		}
		if !slices.Contains(texts, text) {
			texts = append(texts, text)
		}
	}
	return texts
}

func drawnRules(next func(int) int) []string {
	rules := []string{}
	for range []int{0, 1, 2, 3, 20, 20 + next(2)}[next(6)] {
		rule := drawnPattern(next, 1+next(5))
		switch next(40) {
		case 0:
			rule = strings.Repeat("*", 60) + strings.Repeat("*", next(2))
		case 1:
			rule = ""
		}
		rules = append(rules, rule)
	}
	return rules
}

func TestPromise15KeptOfDrawn(t *testing.T) {
	wrong, some, all := 0, 0, 0
	for seed := range uint64(6000) {
		next := drawer(seed)
		l, rules := drawnLabels(next), drawnRules(next)
		if got := impl.LabelsOk(l); got != (labelsTold(l) == "") {
			t.Fatalf("LabelsOk(%q) = %v", l, got)
		}
		checkKept(t, l, rules)
		switch kept := len(impl.KeptNames(l, rules)); {
		case kept == 0:
			wrong++
		case kept == 20:
			all++
		case kept > 1:
			some++
		}
	}
	if wrong < 500 || some < 700 || all < 300 {
		t.Errorf("%d are wrong, %d keep some, %d keep all", wrong, some, all)
	}
}

// What some rules keep is what each of them keeps alone, in whatever order they stand and however often.
func TestPromise15KeptRuleByRule(t *testing.T) {
	more := 0
	for seed := range uint64(2000) {
		next := drawer(seed)
		l := impl.Labels{Classes: drawnTexts(next, 6), Methods: drawnTexts(next, 20)}
		var rules []string
		for range next(10) {
			rules = append(rules, drawnPattern(next, 1+next(4)))
		}
		turned := append(slices.Clone(rules), rules...)
		slices.Reverse(turned)
		for _, kept := range []func(impl.Labels, []string) []int64{impl.KeptClasses, impl.KeptNames} {
			alone := numberSet{0: true}
			for _, rule := range rules {
				for _, n := range kept(l, []string{rule}) {
					alone[n] = true
				}
			}
			got := kept(l, rules)
			if !slices.Equal(got, alone.rising()) || !slices.Equal(got, kept(l, turned)) {
				t.Fatalf("%v is kept, one by one %v, the other way round %v, of %q by %q", got, alone.rising(), kept(l, turned), l, rules)
			}
			if len(got) > 1 {
				more++
			}
		}
	}
	if more < 1000 {
		t.Errorf("only %d times more than the first one", more)
	}
}
