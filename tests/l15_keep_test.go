package tests

import (
	"reflect"
	"slices"
	"strconv"
	"strings"
	"testing"

	"loop.example/g00334/impl"
)

// matchedTold tells the chapter once more.
func matchedTold(pattern string, text string) bool {
	return len(pattern) <= 60 && len(text) <= 60 && signsTake(pattern, text)
}

// signsTake goes sign by sign: the first one takes some bytes, those behind it take the rest.
func signsTake(signs string, text string) bool {
	if signs == "" {
		return text == ""
	}
	for n := range len(text) + 1 {
		if signTakes(signs[0], text[:n]) && signsTake(signs[1:], text[n:]) {
			return true
		}
	}
	return false
}

func signTakes(sign byte, text string) bool {
	switch sign {
	case '*':
		return true
	case '?':
		return len(text) == 1
	}
	return text == string([]byte{sign})
}

func checkMatches(t *testing.T, pattern string, text string, want bool) {
	t.Helper()
	if got := impl.Matches(pattern, text); got != want {
		t.Errorf("Matches(%q, %q) = %v", pattern, text, got)
	}
}

// A matchCase has texts that are what the pattern says, and texts that are not.
type matchCase struct {
	pattern string
	are     []string
	not     []string
}

func checkMatchCases(t *testing.T, cases []matchCase) {
	t.Helper()
	for _, c := range cases {
		for _, text := range c.are {
			checkMatches(t, c.pattern, text, true)
		}
		for _, text := range c.not {
			checkMatches(t, c.pattern, text, false)
		}
	}
}

func anyByte(b int) string { return string([]byte{byte(b)}) }

func allBytes() (all []string) {
	for b := range 256 {
		all = append(all, anyByte(b))
	}
	return all
}

// textsOf are all texts of at most n of these signs, those of fewer ahead.
func textsOf(signs string, n int) []string {
	all := []string{""}
	for from := 0; n > 0; n-- {
		to := len(all)
		for _, text := range all[from:to] {
			for at := range len(signs) {
				all = append(all, text+signs[at:at+1])
			}
		}
		from = to
	}
	return all
}

func TestPromise15MatchesWithoutASign(t *testing.T) {
	checkMatchCases(t, []matchCase{
		{"", []string{""}, []string{"a", " ", "\x00", "*", "?", strings.Repeat("a", 60)}},
		{"a", []string{"a"}, []string{"", "b", "A", "aa", "ab", "ba", " a", "a ", "?", "*"}},
		{"Main", []string{"Main"}, []string{"", "M", "Mai", "ain", "Mainn", "MMain", "main", "MAIN", "Main ", " Main", "Main\x00", "Maim", "Nain", "naiM"}},
		{"aa", []string{"aa"}, []string{"", "a", "aaa", "ab", "ba"}},
		{" ", []string{" "}, []string{"", "  ", "\t", "_"}},
	})
	plain := strings.Repeat("0123456789", 6)
	for n := range 61 {
		checkMatches(t, plain[:n], plain[:n], true)
		for at := range n {
			other := []byte(plain[:n])
			other[at] ^= 1
			checkMatches(t, plain[:n], string(other), false)
			checkMatches(t, plain[:n], plain[:at], false)
			checkMatches(t, plain[:at], plain[:n], false)
			checkMatches(t, plain[:n], plain[:at]+plain[at+1:n], false)
		}
	}
}

func TestPromise15MatchesOfOneStar(t *testing.T) {
	for n := range 61 {
		checkMatches(t, "*", strings.Repeat("x", n), true)
		checkMatches(t, "**", strings.Repeat("x", n), true)
		checkMatches(t, "*", strings.Repeat("\xff", n), true)
		checkMatches(t, "*", strings.Repeat("*?\x00", 20)[:n], true)
	}
	for n := range 256 {
		checkMatches(t, "*", anyByte(n), true)
		checkMatches(t, "*", "a"+anyByte(n)+"b", true)
	}
	for _, n := range []int{61, 62, 63, 64, 65, 100, 1000} {
		checkMatches(t, "*", strings.Repeat("x", n), false)
	}
}

func TestPromise15MatchesOfStars(t *testing.T) {
	checkMatchCases(t, []matchCase{
		{"**", []string{"", "a", "ab", "*", "**", "***"}, nil},
		{"****", []string{"", "a", "abcdefg"}, nil},
		{"a**b", []string{"ab", "aab", "abb", "axb", "axyb", "abab"}, []string{"", "a", "b", "ba", "abx", "xab", "axbx"}},
		{"*a", []string{"a", "aa", "ba", "aba", "*a", "xxxxa"}, []string{"", "b", "ab", "aab", "a "}},
		{"a*", []string{"a", "aa", "ab", "aba", "a*", "a\n"}, []string{"", "b", "ba", "baa", " a"}},
		{"a*b", []string{"ab", "aab", "abb", "axb", "ab ab"}, []string{"", "a", "b", "a*", "*b", "ba", "abc", "cab"}},
		{"*a*", []string{"a", "aa", "bab", "ba", "ab"}, []string{"", "b", "bb", "A"}},
		{"a*b*c", []string{"abc", "abbc", "aabbcc", "axbxc", "abcbc"}, []string{"ac", "acb", "abcb", "abca", "bc", "ab"}},
		{"*a*b*", []string{"ab", "aab", "xaxbx", "bab"}, []string{"", "a", "b", "ba", "bbaa"}},
		{"Un*", []string{"Un", "Unit", "Un*"}, []string{"U", "un", "xUn", "Util"}},
	})
}

// What a star takes first has to be given back, or more has to be taken.
func TestPromise15MatchesGivesBack(t *testing.T) {
	checkMatchCases(t, []matchCase{
		{"*ab", []string{"ab", "aab", "abab", "aabab", "ababab"}, []string{"aba", "abb", "ba", "abba", "b"}},
		{"*aab", []string{"aab", "aaab", "aaaab", "aabaab", "abaab"}, []string{"ab", "aaba", "aabb", "abab"}},
		{"a*a", []string{"aa", "aba", "aaa", "abaaba"}, []string{"a", "ab", "ba", "aab", "baa"}},
		{"ab*ab", []string{"abab", "ababab", "abxab", "abaab"}, []string{"ab", "aba", "abb", "abba", "ababa"}},
		{"aba*aba", []string{"abaaba", "ababaaba", "abababa", "abaxaba"}, []string{"aba", "ababa", "abaab", "abaabab"}},
		{"*ab*ab*", []string{"abab", "aabab", "abxab", "xabxabx", "aabaab"}, []string{"ab", "aba", "abba", "abxa", "aabb"}},
		{"a*bc*d", []string{"abcd", "abbcd", "abcbcd", "abcdbcdd", "axbxbcxd"}, []string{"abd", "abxcd", "acd", "abcdc", "bcd"}},
		{"*a*a*a", []string{"aaa", "aaaa", "babaa", "abababa"}, []string{"aa", "a", "aaab", "ababab", ""}},
		{"*?a", []string{"aa", "ba", "aaa", "bba"}, []string{"a", "", "ab", "aab"}},
		{"*a?", []string{"aa", "ab", "aaa", "baab", "aab"}, []string{"a", "", "ba", "abb"}},
		{"a*b?", []string{"abc", "abb", "axxbc", "abbb", "abab!bx"}, []string{"ab", "axxb", "abxx", "axbxx", "bbc"}},
		{"*b?b*", []string{"bbb", "bab", "bbab", "abcbb", "bbcb"}, []string{"bb", "bccb", "bb.", "abb"}},
	})
}

func TestPromise15MatchesOfAnyOne(t *testing.T) {
	checkMatchCases(t, []matchCase{
		{"?", allBytes(), []string{"", "aa", "??", "é"}},
		{"??", []string{"aa", "ab", "?*", "é"}, []string{"", "a", "abc"}},
		{"?bc", []string{"abc", "bbc", "?bc", "*bc", "\xffbc", "\nbc"}, []string{"bc", "aabc", "ab", "abd", "abcd"}},
		{"a?c", []string{"abc", "acc", "a?c", "a\x00c", "a\x80c"}, []string{"ac", "abbc", "ab", "bbc", "abb"}},
		{"ab?", []string{"abc", "abb", "ab?", "ab ", "ab\xc3"}, []string{"ab", "abcc", "acc", "abé"}},
		{"?*", []string{"a", "ab", "*", "?"}, []string{""}},
		{"*?", []string{"a", "ab", "*", "?"}, []string{""}},
		{"?*?", []string{"ab", "abc", "aa", "é"}, []string{"", "a"}},
		{"*?*?*", []string{"ab", "abc", "aaaa"}, []string{"", "a"}},
		{"?a?", []string{"aaa", "bab"}, []string{"a", "aa", "ba", "ab", "bba", "abb", "aaaa"}},
	})
	for n := range 61 {
		ones := strings.Repeat("?", n)
		for length := range 61 {
			text := strings.Repeat("ab", 30)[:length]
			checkMatches(t, ones, text, length == n)
			if n < 60 {
				checkMatches(t, ones+"*", text, length >= n)
				checkMatches(t, "*"+ones, text, length >= n)
				checkMatches(t, ones[:n/2]+"*"+ones[n/2:], text, length >= n)
			}
		}
	}
}

// Each byte but the two signs is itself alone, be it a letter or not; a text with the signs in it has nothing of them.
func TestPromise15MatchesOfAllBytes(t *testing.T) {
	for a := range 256 {
		for b := range 256 {
			checkMatches(t, anyByte(a), anyByte(b), a == b || a == '*' || a == '?')
			checkMatches(t, "x"+anyByte(a)+"y", "x"+anyByte(b)+"y", a == b || a == '*' || a == '?')
			checkMatches(t, "*"+anyByte(a), "x"+anyByte(b), a == b || a == '*' || a == '?')
		}
	}
	checkMatchCases(t, []matchCase{
		{"é", []string{"é"}, []string{"\xc3", "\xa9", "e", "è", "É"}},
		{"\xc3?", []string{"é", "è", "\xc3a"}, []string{"\xc3", "e", "ée"}},
		{"?\xa9", []string{"é", "a\xa9"}, []string{"\xa9", "è"}},
		{"*\xa9", []string{"é", "\xa9", "éé"}, []string{"è", "éa"}},
		{"????", []string{"\U0001f600", "éé", "abcd"}, []string{"é", "\U0001f600a"}},
		{"\xff\xfe*", []string{"\xff\xfe", "\xff\xfe\x80"}, []string{"\xff", "\xfe\xff", "\ufffd"}},
		{"\ufffd", []string{"\ufffd"}, []string{"\xff", "\xef", "\x80"}},
		{"a\x00b", []string{"a\x00b"}, []string{"a", "ab", "a\x00", "a\x00c"}},
		{"\\*", []string{"\\", "\\*", "\\a"}, []string{"*", "", "a\\"}},
		{"\\?", []string{"\\?", "\\a"}, []string{"?", "\\"}},
		{"[ab]", []string{"[ab]"}, []string{"a", "b", "[a]"}},
		{"[*]", []string{"[]", "[*]", "[ab]"}, []string{"*", "a"}},
		{"a.c+", []string{"a.c+"}, []string{"abc", "a.c", "a.cc", "abc+"}},
		{"{a,b}", []string{"{a,b}"}, []string{"a", "b"}},
		{"(a|b)", []string{"(a|b)"}, []string{"a", "b"}},
		{"^a$", []string{"^a$"}, []string{"a"}},
		{"a/*", []string{"a/", "a/b", "a/b/c"}, []string{"a", "b/a"}},
		{"*.*", []string{".", "a.b", ".a", "a.b.c"}, []string{"", "ab"}},
		{"%_", []string{"%_"}, []string{"a", "ab"}},
		{"a*", []string{"a\n", "a\nb\r\n"}, []string{"\na"}},
	})
}

func TestPromise15MatchesAtTheLimits(t *testing.T) {
	sixty := strings.Repeat("0123456789", 6)
	of := func(sign string, n int) string { return strings.Repeat(sign, n) }
	checkMatchCases(t, []matchCase{
		{sixty, []string{sixty}, []string{sixty[:59], sixty[1:], sixty + "0", ""}},
		{of("?", 60), []string{sixty, of("\xff", 60)}, []string{sixty[:59], sixty + "0"}},
		{of("*", 60), []string{"", "a", sixty}, []string{sixty + "0"}},
		{of("?", 59) + "*", []string{sixty, sixty[:59]}, []string{sixty[:58], sixty + "0"}},
		{"*" + sixty[1:], []string{sixty, sixty[1:]}, []string{sixty[2:], sixty[:59]}},
		{"*9", []string{sixty}, []string{sixty[:59], sixty + "9"}},
		{"0*", []string{sixty}, []string{sixty + "0"}},
		{of("?*", 30), []string{sixty, sixty[:30]}, []string{sixty[:29], sixty + "0"}},
		{of("*?", 30), []string{sixty, sixty[:30]}, []string{sixty[:29], sixty + "0"}},
		{of("*0", 30), []string{of("0", 30), of("10", 30), of("0", 60)}, []string{of("0", 29), of("10", 29) + "1", of("0", 61)}},
		// One byte too many in the pattern, though what it says is there.
		{sixty + "0", nil, []string{sixty + "0", sixty, ""}},
		{sixty + "*", nil, []string{sixty, sixty + "0"}},
		{"*" + sixty, nil, []string{sixty, "0" + sixty}},
		{of("*", 61), nil, []string{"", "a", sixty, of("*", 61)}},
		{of("*", 1000), nil, []string{"", "a", of("*", 1000)}},
		{of("?", 61), nil, []string{sixty, sixty + "0"}},
		{of("*", 62), nil, []string{""}},
		{of("*", 64), nil, []string{""}},
		{of("a", 100000), nil, []string{of("a", 100000)}},
	})
	for n := 61; n < 140; n++ {
		for _, pattern := range []string{"*", "**", "*0*", "?*", "*?", "0*", of("*", 60)} {
			checkMatches(t, pattern, of("0", n), false)
		}
		checkMatches(t, of("0", n), of("0", n), false)
	}
}

// Whoever tries all that each star may take does not come to an end here.
func TestPromise15MatchesComesToAnEnd(t *testing.T) {
	of := strings.Repeat
	for n := range 30 {
		pattern := of("*a", n)
		checkMatches(t, pattern+"b", of("a", 60), false)
		checkMatches(t, pattern+"*b", of("a", 60), false)
		checkMatches(t, pattern+"*", of("a", 60), true)
		checkMatches(t, pattern+"*b", of("a", 59)+"b", true)
		checkMatches(t, "b"+pattern, of("a", 60), false)
		checkMatches(t, of("*?", n)+"b", of("a", 60), false)
		checkMatches(t, of("*", 2*n)+"b", of("a", 60), false)
		checkMatches(t, of("?*", n)+"b", of("a", 60), false)
		checkMatches(t, pattern+"b"+of("*", 59-2*n), of("a", 60), false)
	}
}

// labelsTold tells why these are no Labels; nothing where they are.
func labelsTold(l impl.Labels) string {
	if len(l.Classes) < 1 || len(l.Classes) > 6 || len(l.Methods) != 20 {
		return "how many"
	}
	for _, list := range [][]string{l.Classes, l.Methods} {
		seen := map[string]int{}
		for _, label := range list {
			seen[label]++
			if len(label) < 1 || len(label) > 30 {
				return "how long"
			}
			if seen[label] > 1 {
				return "alike"
			}
		}
	}
	return ""
}

// lettered are so many texts that are unlike, by a letter behind what they have in common.
func lettered(n int, with string) (all []string) {
	for at := range n {
		all = append(all, with+anyByte('a'+at))
	}
	return all
}

// labelsFor has so many classes, Ca and on, and names ma to mt.
func labelsFor(classes int) impl.Labels {
	return impl.Labels{Classes: lettered(classes, "C"), Methods: lettered(20, "m")}
}

func checkLabels(t *testing.T, why string, l impl.Labels, want bool) {
	t.Helper()
	if told := labelsTold(l) == ""; told != want {
		t.Fatalf("%s: told %v", why, told)
	}
	if got := impl.LabelsOk(l); got != want {
		t.Errorf("%s: LabelsOk(%q) = %v", why, l, got)
	}
}

func TestPromise15LabelsOkOfHowMany(t *testing.T) {
	for classes := range 30 {
		for _, names := range []int{0, 1, 6, 18, 19, 20, 21, 22, 40} {
			l := impl.Labels{Classes: lettered(classes, "C"), Methods: lettered(names, "m")}
			checkLabels(t, "so many", l, classes >= 1 && classes <= 6 && names == 20)
		}
	}
	checkLabels(t, "zero", impl.Labels{}, false)
	checkLabels(t, "lists of none", impl.Labels{Classes: []string{}, Methods: []string{}}, false)
	checkLabels(t, "no names", impl.Labels{Classes: []string{"a"}}, false)
	checkLabels(t, "no classes", impl.Labels{Methods: lettered(20, "m")}, false)
	checkLabels(t, "the other way round", impl.Labels{Classes: lettered(20, "m"), Methods: lettered(3, "C")}, false)
}

func TestPromise15LabelsOkOfHowLong(t *testing.T) {
	for n, want := range map[int]bool{0: false, 1: true, 2: true, 15: true, 29: true, 30: true, 31: false, 32: false, 60: false, 61: false, 1000: false} {
		for classes := 1; classes <= 6; classes++ {
			for at := range classes {
				l := labelsFor(classes)
				l.Classes[at] = strings.Repeat("x", n)
				checkLabels(t, "a class", l, want)
			}
		}
		for at := range 20 {
			l := labelsFor(3)
			l.Methods[at] = strings.Repeat("x", n)
			checkLabels(t, "a name", l, want)
		}
	}
	// Bytes are counted, not runes.
	for n, want := range map[int]bool{1: true, 15: true, 16: false, 30: false} {
		l := labelsFor(2)
		l.Classes[1] = strings.Repeat("é", n)
		checkLabels(t, "a class", l, want)
		l = labelsFor(2)
		l.Methods[19] = strings.Repeat("é", n)
		checkLabels(t, "a name", l, want)
	}
	long := labelsFor(6)
	for at := range long.Classes {
		long.Classes[at] = strings.Repeat("C", 28) + long.Classes[at]
	}
	for at := range long.Methods {
		long.Methods[at] = strings.Repeat("m", 28) + long.Methods[at]
	}
	checkLabels(t, "all of 30", long, true)
}

func TestPromise15LabelsOkOfTwoAlike(t *testing.T) {
	for a := range 20 {
		for b := range 20 {
			l := labelsFor(6)
			l.Methods[a] = l.Methods[b]
			checkLabels(t, "two names", l, a == b)
			l = labelsFor(6)
			l.Classes[a%6] = l.Classes[b%6]
			checkLabels(t, "two classes", l, a%6 == b%6)
			// One of each list may be the same.
			l = labelsFor(6)
			l.Classes[a%6] = l.Methods[b]
			checkLabels(t, "one of both", l, true)
		}
	}
	l := labelsFor(6)
	l.Methods = append(lettered(6, "C"), lettered(14, "m")...)
	checkLabels(t, "all classes are names", l, true)
	l.Classes = []string{"a", "A", "aa", " a", "a ", "a\x00"}
	checkLabels(t, "nearly alike", l, true)
	l.Classes = []string{"é", "e", "\xc3", "\xa9", "\xff", "\ufffd"}
	checkLabels(t, "any bytes", l, true)
	l.Classes = []string{"*", "?", "**", "a*", "*a", "??"}
	checkLabels(t, "signs", l, true)
	l.Classes = []string{"\xff", "a", "\xff"}
	checkLabels(t, "two of no rune", l, false)
}

// keptTold tells the chapter once more, of the classes and of the names.
func keptTold(l impl.Labels, rules []string) (classes []int64, names []int64) {
	if labelsTold(l) != "" || len(rules) > 20 {
		return nil, nil
	}
	kept := [2]map[int64]bool{{0: true}, {0: true}}
	for _, rule := range rules {
		if len(rule) > 60 {
			return nil, nil
		}
		for k, list := range [][]string{l.Classes, l.Methods} {
			for n, label := range list {
				if matchedTold(rule, label) {
					kept[k][int64(n)] = true
				}
			}
		}
	}
	return numberSet(kept[0]).rising(), numberSet(kept[1]).rising()
}

// checkKept holds both functions against the chapter told once more.
func checkKept(t *testing.T, l impl.Labels, rules []string) {
	t.Helper()
	classes, names := keptTold(l, rules)
	if got := impl.KeptClasses(l, rules); !slices.Equal(got, classes) || !rises(got) {
		t.Fatalf("KeptClasses(%q, %q) = %v, want %v", l, rules, got, classes)
	}
	if got := impl.KeptNames(l, rules); !slices.Equal(got, names) || !rises(got) {
		t.Fatalf("KeptNames(%q, %q) = %v, want %v", l, rules, got, names)
	}
}

func checkNoneKept(t *testing.T, why string, l impl.Labels, rules []string) {
	t.Helper()
	if classes, names := impl.KeptClasses(l, rules), impl.KeptNames(l, rules); len(classes) != 0 || len(names) != 0 {
		t.Errorf("%s: kept %v and %v of %q by %q", why, classes, names, l, rules)
	}
}

// town has labels that share beginnings, middles and ends, in both lists.
func town() impl.Labels {
	return impl.Labels{
		Classes: []string{"Main", "Util", "Unit", "UnitList", "List", "Mainly"},
		Methods: strings.Fields("main run get set getAll setAll add addAll size isEmpty Unit List next hasNext x y xy run2 get2 toString"),
	}
}

// A keptCase has the rules, with a blank between, and what is kept of town.
type keptCase struct {
	rules   string
	classes string
	names   string
}

func TestPromise15Kept(t *testing.T) {
	l := town()
	checkLabels(t, "town", l, true)
	for _, c := range []keptCase{
		{"", "0", "0"},
		{"Nobody", "0", "0"},
		{"main", "0", "0"},
		{"Main", "0", "0"},
		{"Main*", "0 5", "0"},
		{"Un*", "0 2 3", "0 10"},
		{"Unit", "0 2", "0 10"},
		{"*List", "0 3 4", "0 11"},
		{"*i*", "0 1 2 3 4 5", "0 8 9 10 11 19"},
		{"*", "0 1 2 3 4 5", "0 1 2 3 4 5 6 7 8 9 10 11 12 13 14 15 16 17 18 19"},
		{"?", "0", "0 14 15"},
		{"??", "0", "0 16"},
		{"???", "0", "0 1 2 3 6"},
		{"????", "0 1 2 4", "0 8 10 11 12 17 18"},
		{"*2", "0", "0 17 18"},
		{"get*", "0", "0 2 4 18"},
		{"?et", "0", "0 2 3"},
		{"*All", "0", "0 4 5 7"},
		{"?ext *ext", "0", "0 12 13"},
		// Several rules match one, which is kept once.
		{"Unit U* *t Un?t", "0 1 2 3 4", "0 2 3 10 11 12 13"},
		{"Unit Unit Unit", "0 2", "0 10"},
		{"Main main *ain *in", "0", "0"},
		// The order of the rules is not that of what is kept.
		{"Mainly List Util", "0 1 4 5", "0 11"},
		{"toString xy x run", "0", "0 1 14 16 19"},
		{"Nobody Unit nothing", "0 2", "0 10"},
	} {
		rules := strings.Fields(c.rules)
		checkKept(t, l, rules)
		if got := impl.KeptClasses(l, rules); !slices.Equal(got, numbersIn(c.classes)) {
			t.Errorf("KeptClasses of %q = %v, want %s", rules, got, c.classes)
		}
		if got := impl.KeptNames(l, rules); !slices.Equal(got, numbersIn(c.names)) {
			t.Errorf("KeptNames of %q = %v, want %s", rules, got, c.names)
		}
	}
}

// Number 0 stays without rules, without a match, and but once where rules match it; of one class and of six.
func TestPromise15KeptIsTheFirst(t *testing.T) {
	for classes := 1; classes <= 6; classes++ {
		l := labelsFor(classes)
		for _, rules := range [][]string{nil, {}, {""}, {"", ""}, {"x"}, {"Ca", "ma"}, {"?a", "*a", "??"}, {"Ca*", "*ma"}, {"*"}, {"**", "*"}} {
			checkKept(t, l, rules)
			if got := impl.KeptClasses(l, rules); len(got) == 0 || got[0] != 0 {
				t.Errorf("KeptClasses(%q, %q) = %v", l, rules, got)
			}
			if got := impl.KeptNames(l, rules); len(got) == 0 || got[0] != 0 {
				t.Errorf("KeptNames(%q, %q) = %v", l, rules, got)
			}
		}
	}
}

// Each one alone is kept by its own label, beside number 0.
func TestPromise15KeptIsEachOne(t *testing.T) {
	for classes := 1; classes <= 6; classes++ {
		l := labelsFor(classes)
		for at, label := range l.Classes {
			checkKept(t, l, []string{label})
			if got := impl.KeptClasses(l, []string{label}); got[len(got)-1] != int64(at) {
				t.Errorf("KeptClasses(%q, %q) = %v", l, label, got)
			}
		}
		for at, label := range l.Methods {
			checkKept(t, l, []string{label})
			if got := impl.KeptNames(l, []string{label}); got[len(got)-1] != int64(at) {
				t.Errorf("KeptNames(%q, %q) = %v", l, label, got)
			}
		}
	}
}

func TestPromise15KeptOfHowManyRules(t *testing.T) {
	l := labelsFor(6)
	for n := range 20 {
		// Only the last one matches anything.
		rules := append(slices.Repeat([]string{"no"}, n), "?b*")
		checkKept(t, l, rules)
		if got := impl.KeptClasses(l, rules); !slices.Equal(got, []int64{0, 1}) {
			t.Errorf("KeptClasses by %d rules = %v", n+1, got)
		}
		if got := impl.KeptNames(l, rules); !slices.Equal(got, []int64{0, 1}) {
			t.Errorf("KeptNames by %d rules = %v", n+1, got)
		}
	}
	checkKept(t, l, l.Methods)
	if got := impl.KeptNames(l, l.Methods); len(got) != 20 {
		t.Errorf("KeptNames by all of them = %v", got)
	}
	for _, rule := range []string{"", "no", "*", "Cb", "mb"} {
		for _, n := range []int{21, 22, 40, 1000} {
			checkNoneKept(t, "rules", l, slices.Repeat([]string{rule}, n))
		}
	}
	checkNoneKept(t, "rules", l, append(slices.Clone(l.Methods), "mt"))
}

func TestPromise15KeptOfHowLongARule(t *testing.T) {
	l := labelsFor(6)
	l.Classes[3], l.Methods[7] = strings.Repeat("x", 30), strings.Repeat("x", 30)
	for _, long := range []string{strings.Repeat("*", 60), strings.Repeat("*", 31) + "x" + strings.Repeat("*", 28), strings.Repeat("x*", 30), strings.Repeat("x", 60), strings.Repeat("?", 60)} {
		for n := range 20 {
			rules := slices.Repeat([]string{"?b"}, 20)
			rules[n] = long
			checkKept(t, l, rules)
			checkKept(t, l, []string{long})
			// With one byte more nothing is kept, whatever the others say, wherever it stands, and though its other bytes would match.
			for _, more := range []string{"*", "x", "?", strings.Repeat("*", 100)} {
				rules[n] = long + more
				checkNoneKept(t, "a long rule", l, rules)
				checkNoneKept(t, "a long rule", l, rules[n:n+1])
			}
		}
	}
	if got := impl.KeptClasses(l, []string{strings.Repeat("x*", 30)}); !slices.Equal(got, []int64{0, 3}) {
		t.Errorf("KeptClasses by a rule of 60 bytes = %v", got)
	}
	if got := impl.KeptNames(l, []string{strings.Repeat("*x", 30)}); !slices.Equal(got, []int64{0, 7}) {
		t.Errorf("KeptNames by a rule of 60 bytes = %v", got)
	}
}

func TestPromise15KeptOfWrongLabels(t *testing.T) {
	for why, change := range map[string]func(l *impl.Labels){
		"no classes":                func(l *impl.Labels) { l.Classes = nil },
		"seven classes":             func(l *impl.Labels) { l.Classes = lettered(7, "C") },
		"no names":                  func(l *impl.Labels) { l.Methods = nil },
		"19 names":                  func(l *impl.Labels) { l.Methods = l.Methods[:19] },
		"21 names":                  func(l *impl.Labels) { l.Methods = lettered(21, "m") },
		"a class without a byte":    func(l *impl.Labels) { l.Classes[5] = "" },
		"the first one without":     func(l *impl.Labels) { l.Classes[0] = "" },
		"a name without a byte":     func(l *impl.Labels) { l.Methods[19] = "" },
		"the first name without":    func(l *impl.Labels) { l.Methods[0] = "" },
		"a class of 31":             func(l *impl.Labels) { l.Classes[5] = strings.Repeat("x", 31) },
		"a name of 31":              func(l *impl.Labels) { l.Methods[19] = strings.Repeat("x", 31) },
		"two classes alike":         func(l *impl.Labels) { l.Classes[5] = l.Classes[4] },
		"the first and last alike":  func(l *impl.Labels) { l.Classes[5] = l.Classes[0] },
		"two names alike":           func(l *impl.Labels) { l.Methods[19] = l.Methods[18] },
		"the first and last name":   func(l *impl.Labels) { l.Methods[19] = l.Methods[0] },
		"the lists change places":   func(l *impl.Labels) { l.Classes, l.Methods = l.Methods, l.Classes },
		"nothing in either of them": func(l *impl.Labels) { *l = impl.Labels{} },
	} {
		for _, rules := range [][]string{nil, {"*"}, {"Ca", "ma"}, {"?b"}, {""}} {
			l := labelsFor(6)
			checkKept(t, l, rules)
			change(&l)
			checkLabels(t, why, l, false)
			checkNoneKept(t, why, l, rules)
		}
	}
}

// A label with signs in it is a text as any other, and what stands in both lists is kept in both.
func TestPromise15KeptOfSigns(t *testing.T) {
	l := labelsFor(6)
	l.Classes = []string{"a*", "ab", "*", "?", "a?", "\xff"}
	l.Methods[4], l.Methods[9] = "*", "ab"
	for rule, want := range map[string]string{
		"ab": "0 1", "a*": "0 1 4", "?": "0 2 3 5", "*": "0 1 2 3 4 5", "a?": "0 1 4", "\xff": "0 5", "**b": "0 1", "\\*": "0",
	} {
		checkKept(t, l, []string{rule})
		if got := impl.KeptClasses(l, []string{rule}); !slices.Equal(got, numbersIn(want)) {
			t.Errorf("KeptClasses by %q = %v, want %s", rule, got, want)
		}
	}
	if got := impl.KeptNames(l, []string{"?", "ab"}); !slices.Equal(got, []int64{0, 4, 9}) {
		t.Errorf("KeptNames = %v", got)
	}
}

// roomyTexts has the same texts, with others in the room behind them.
func roomyTexts(list []string) ([]string, []string) {
	whole := slices.Clone(list)
	for n := range 8 {
		whole = append(whole, "behind"+strconv.Itoa(n))
	}
	return whole[:len(list)], whole
}

// checkKeptMemory writes into what is answered; neither an argument, nor the room behind it, nor an answer of before or after changes by it.
func checkKeptMemory(t *testing.T, plain impl.Labels, plainRules []string) {
	t.Helper()
	classes, wholeClasses := roomyTexts(plain.Classes)
	methods, wholeMethods := roomyTexts(plain.Methods)
	rules, wholeRules := roomyTexts(plainRules)
	l := impl.Labels{Classes: classes, Methods: methods}
	wholes := func() [][]string { return [][]string{wholeClasses, wholeMethods, wholeRules} }
	before := [][]string{slices.Clone(wholeClasses), slices.Clone(wholeMethods), slices.Clone(wholeRules)}
	answers := func() [][]int64 { return [][]int64{impl.KeptClasses(l, rules), impl.KeptNames(l, rules)} }
	first, second := answers(), answers()
	want := cloned(first)
	checkKept(t, l, rules)
	impl.LabelsOk(l)
	checkNoneShared(t, "answers", first)
	for _, list := range first {
		_ = append(list, 77, 78, 79)
		_ = append(list[:0], 80, 81, 82)
		spoilList(list)
	}
	if !slices.EqualFunc(second, want, slices.Equal) {
		t.Fatalf("an answer of before is changed: %v, was %v", second, want)
	}
	if third := answers(); !slices.EqualFunc(third, want, slices.Equal) {
		t.Fatalf("again %v, want %v", third, want)
	}
	if !reflect.DeepEqual(wholes(), before) || len(l.Classes) != len(plain.Classes) || len(l.Methods) != len(plain.Methods) {
		t.Fatalf("an argument, or the room behind it, is changed: %q", wholes())
	}
}

func TestPromise21KeptIsNewMemory(t *testing.T) {
	for _, rules := range [][]string{nil, {}, {""}, {"*"}, {"Un*", "*t"}, {"no"}, town().Methods, append(town().Methods, "x"), {strings.Repeat("*", 61)}} {
		for _, l := range []impl.Labels{{}, town(), labelsFor(1), labelsFor(6), labelsFor(7), {Classes: town().Classes}} {
			checkKeptMemory(t, l, rules)
		}
	}
}

// What lies behind a list is not of it: a seventh class, a twenty-first name, a twenty-first rule.
func TestPromise21KeptOfWhatLiesBehind(t *testing.T) {
	classes, methods := lettered(9, "C"), lettered(26, "m")
	classes[6], methods[20] = classes[0], methods[0]
	rules := append(slices.Repeat([]string{"?b"}, 20), "?c", strings.Repeat("*", 61))
	for n := range 9 {
		for _, names := range []int{19, 20, 21} {
			for _, many := range []int{0, 1, 19, 20, 21, 22} {
				l := impl.Labels{Classes: classes[:n], Methods: methods[:names]}
				checkKept(t, l, rules[:many])
				if got := impl.LabelsOk(l); got != (labelsTold(l) == "") {
					t.Errorf("LabelsOk(%q) = %v", l, got)
				}
			}
		}
	}
}

// Every function answers whatever it is given, and the same at each time.
func TestPromise21KeptOfAnything(t *testing.T) {
	huge := strings.Repeat("*a", 1<<16)
	texts := []string{"", "*", "?", "a", huge, "\x00", "\xff\xfe", strings.Repeat("*", 60), strings.Repeat("a", 60)}
	for _, a := range texts {
		for _, b := range texts {
			if impl.Matches(a, b) != matchedShort(a, b) {
				t.Errorf("Matches of %d and of %d bytes", len(a), len(b))
			}
			l := labelsFor(6)
			l.Classes[2] = a
			checkKept(t, l, []string{b, a})
			checkNoneKept(t, "classes alone", impl.Labels{Classes: []string{a, b}}, []string{b})
			checkNoneKept(t, "names alone", impl.Labels{Methods: []string{a, b}}, []string{a})
		}
	}
	checkNoneKept(t, "many of all", impl.Labels{Classes: slices.Repeat([]string{"a"}, 1<<16), Methods: slices.Repeat([]string{"b"}, 1<<16)}, slices.Repeat([]string{"*"}, 1<<16))
}

// matchedShort leaves out stars behind a star, which say nothing more, so that what is told of many ends in time.
func matchedShort(pattern string, text string) bool {
	short := pattern
	for strings.Contains(short, "**") {
		short = strings.ReplaceAll(short, "**", "*")
	}
	return len(pattern) <= 60 && matchedTold(short, text)
}
