package tests

import (
	"math"
	"regexp"
	"slices"
	"strconv"
	"strings"
	"testing"

	"loop.example/g00892/impl"
)

// stringsOver lists all strings of at most size bytes over the given alphabet.
func stringsOver(alphabet string, size int) []string {
	all := []string{""}
	for from := 0; size > 0; size-- {
		to := len(all)
		for _, s := range all[from:to] {
			for i := range len(alphabet) {
				all = append(all, s+alphabet[i:i+1])
			}
		}
		from = to
	}
	return all
}

// plainChecksum is the definition of the document, written down once more.
func plainChecksum(s string) int {
	h := 7
	for _, c := range []byte(s) {
		h = (41*h + int(c) + 1) % 999979
	}
	return h
}

// longestSealable is a string without # whose checksummed form has exactly MaxString bytes.
func longestSealable() string {
	for size := impl.MaxString; ; size-- {
		s := strings.Repeat("k", size)
		if len(s)+1+len(strconv.Itoa(plainChecksum(s))) == impl.MaxString {
			return s
		}
	}
}

func TestLimitsOfStrings(t *testing.T) {
	if impl.MaxString != 4000 || impl.MaxDecimal != 999999 {
		t.Error(impl.MaxString, impl.MaxDecimal)
	}
}

func TestFormatInt(t *testing.T) {
	for n, want := range map[int]string{
		-12: "-12", 0: "0", 1: "1", -1: "-1", 9: "9", 10: "10", -10: "-10", 100: "100", 40507: "40507",
		999998: "999998", 999999: "999999", -999999: "-999999",
	} {
		if s, ok := impl.FormatInt(n); s != want || !ok {
			t.Errorf("FormatInt(%d) = %q, %v", n, s, ok)
		}
	}
}

func TestFormatIntOutOfRange(t *testing.T) {
	for _, n := range []int{1000000, -1000000, 1 << 32, -1 << 32, math.MaxInt, math.MinInt} {
		if s, ok := impl.FormatInt(n); s != "" || ok {
			t.Errorf("FormatInt(%d) = %q, %v", n, s, ok)
		}
	}
}

func TestIntegersRoundTrip(t *testing.T) {
	for n := -impl.MaxDecimal; n <= impl.MaxDecimal; n++ {
		s, ok := impl.FormatInt(n)
		if s != strconv.Itoa(n) || !ok {
			t.Fatalf("FormatInt(%d) = %q, %v", n, s, ok)
		}
		if m, ok := impl.ParseInt(s); m != n || !ok {
			t.Fatalf("ParseInt(%q) = %d, %v", s, m, ok)
		}
	}
}

func TestParseIntRejects(t *testing.T) {
	for _, s := range []string{
		"", "-", "+", "-0", "+0", "00", "-00", "01", "-01", "007", "+1", "+12", "--1", "-+1", "+-1", "1-",
		"1000000", "-1000000", "0999999", "9223372036854775807", "9223372036854775808", "18446744073709551617",
		" 1", "1 ", "1\n", "1\x00", "1x", "x1", "a", "1.0", "1e3", "0x10", "1_000", "1,000", "\u0661", "\uff11", "\u22121",
		strings.Repeat("0", 5000), strings.Repeat("0", 5000) + "1", strings.Repeat("9", 5000),
	} {
		if n, ok := impl.ParseInt(s); n != 0 || ok {
			t.Errorf("ParseInt(%q) = %d, %v", s, n, ok)
		}
	}
}

func TestParseIntAcceptsTextsOnly(t *testing.T) {
	text := regexp.MustCompile(`^(0|-?[1-9][0-9]*)$`)
	for _, s := range stringsOver("+-019 x_", 5) {
		n, ok := impl.ParseInt(s)
		if ok != text.MatchString(s) {
			t.Fatalf("ParseInt(%q) = %d, %v", s, n, ok)
		}
		back, _ := impl.FormatInt(n)
		if ok && back != s || !ok && n != 0 {
			t.Fatalf("ParseInt(%q) = %d, %v", s, n, ok)
		}
	}
}

func TestSplitString(t *testing.T) {
	for _, c := range []struct {
		s, sep string
		want   []string
	}{
		{"a,,b", ",", []string{"a", "", "b"}},
		{"", ",", []string{""}},
		{",", ",", []string{"", ""}},
		{",,,", ",", []string{"", "", "", ""}},
		{"abc", ",", []string{"abc"}},
		{",a", ",", []string{"", "a"}},
		{"a,", ",", []string{"a", ""}},
		{"a;b,c", ";", []string{"a", "b,c"}},
		{"aaa", "a", []string{"", "", "", ""}},
		{"a b\nc", "\n", []string{"a b", "c"}},
		{"a\x00b", "\x00", []string{"a", "b"}},
		{"a\xffb\xfe", "\xff", []string{"a", "b\xfe"}},
		{"x\u00e9y", "\xa9", []string{"x\xc3", "y"}},
		{"\u00e9,\u20ac", ",", []string{"\u00e9", "\u20ac"}},
	} {
		if parts, ok := impl.SplitString(c.s, c.sep); !slices.Equal(parts, c.want) || !ok {
			t.Errorf("SplitString(%q, %q) = %q, %v", c.s, c.sep, parts, ok)
		}
	}
}

func TestSplitStringLimit(t *testing.T) {
	longest := strings.Repeat("a", impl.MaxString)
	if parts, ok := impl.SplitString(longest, ","); !slices.Equal(parts, []string{longest}) || !ok {
		t.Error("a string of MaxString bytes is not split")
	}
	if parts, ok := impl.SplitString(longest, "a"); !slices.Equal(parts, make([]string, impl.MaxString+1)) || !ok {
		t.Error("MaxString separators are not split", len(parts), ok)
	}
	for _, sep := range []string{",", "a"} {
		if parts, ok := impl.SplitString(longest+"a", sep); len(parts) != 0 || ok {
			t.Error("a string of more than MaxString bytes is split", len(parts), ok)
		}
	}
}

func TestSplitStringRejectsSeparators(t *testing.T) {
	for _, sep := range []string{"", ",,", ", ", "ab", "\u00e9", "\xff\xff", strings.Repeat(",", 5000)} {
		for _, s := range []string{"", "a,,b", "ab"} {
			if parts, ok := impl.SplitString(s, sep); len(parts) != 0 || ok {
				t.Errorf("SplitString(%q, %q) = %q, %v", s, sep, parts, ok)
			}
		}
	}
}

func TestJoinStrings(t *testing.T) {
	for _, c := range []struct {
		parts []string
		sep   string
		want  string
	}{
		{[]string{"a", "", "b"}, ";", "a;;b"},
		{[]string{""}, ",", ""},
		{[]string{"a"}, ",", "a"},
		{[]string{"", ""}, ",", ","},
		{[]string{"", "a"}, ",", ",a"},
		{[]string{"a", ""}, ",", "a,"},
		{[]string{"a;b", "c"}, ",", "a;b,c"},
		{[]string{"a", "b"}, "\x00", "a\x00b"},
		{[]string{"a", "\xfe"}, "\xff", "a\xff\xfe"},
		{[]string{"x\u00e9", "y"}, "z", "x\u00e9zy"},
	} {
		if s, ok := impl.JoinStrings(c.parts, c.sep); s != c.want || !ok {
			t.Errorf("JoinStrings(%q, %q) = %q, %v", c.parts, c.sep, s, ok)
		}
	}
}

func TestJoinStringsRejects(t *testing.T) {
	for _, c := range []struct {
		parts []string
		sep   string
	}{
		{nil, ","},
		{[]string{}, ","},
		{nil, ""},
		{[]string{"a", "b"}, ""},
		{[]string{"a"}, ""},
		{[]string{"a", "b"}, ",,"},
		{[]string{"a", "b"}, "\u00e9"},
		{[]string{"a;b"}, ";"},
		{[]string{";"}, ";"},
		{[]string{"a;b", "c", "d"}, ";"},
		{[]string{"a", "b;", "c"}, ";"},
		{[]string{"a", "b", ";c"}, ";"},
		{[]string{"a", "b\xff"}, "\xff"},
		{[]string{"x\u00e9", "y"}, "\xa9"},
	} {
		if s, ok := impl.JoinStrings(c.parts, c.sep); s != "" || ok {
			t.Errorf("JoinStrings(%q, %q) = %q, %v", c.parts, c.sep, s, ok)
		}
	}
}

func TestJoinStringsLimit(t *testing.T) {
	long := strings.Repeat("a", impl.MaxString)
	for _, c := range []struct {
		parts []string
		ok    bool
	}{
		{[]string{long}, true},
		{[]string{long + "a"}, false},
		{[]string{long[1:], ""}, true},
		{[]string{long, ""}, false},
		{[]string{"", long}, false},
		{[]string{long[:1999], long[:2000]}, true},
		{[]string{long[:2000], long[:2000]}, false},
		{make([]string, impl.MaxString+1), true},
		{make([]string, impl.MaxString+2), false},
		{slices.Repeat([]string{long}, 3000), false},
	} {
		want := ""
		if c.ok {
			want = strings.Join(c.parts, ",")
		}
		if s, ok := impl.JoinStrings(c.parts, ","); s != want || ok != c.ok {
			t.Errorf("%d parts are joined to %d bytes, %v", len(c.parts), len(s), ok)
		}
	}
}

func TestSplittingRoundTrips(t *testing.T) {
	for _, s := range stringsOver("a,;\xff", 6) {
		for _, sep := range []string{",", ";", "\xff", "z"} {
			parts, ok := impl.SplitString(s, sep)
			if len(parts) != strings.Count(s, sep)+1 || !ok {
				t.Fatalf("SplitString(%q, %q) = %q, %v", s, sep, parts, ok)
			}
			if back, ok := impl.JoinStrings(parts, sep); back != s || !ok {
				t.Fatalf("JoinStrings(%q, %q) = %q, %v", parts, sep, back, ok)
			}
		}
	}
}

func TestJoiningRoundTrips(t *testing.T) {
	elements := []string{"", "a", "bc", ";", "\x00"}
	lists := [][]string{{}}
	for i := 0; i < len(lists); i++ {
		list := lists[i]
		if len(list) < 4 {
			for _, e := range elements {
				lists = append(lists, append(slices.Clone(list), e))
			}
		}
		if len(list) == 0 {
			continue
		}
		s, ok := impl.JoinStrings(list, ",")
		if !ok {
			t.Fatalf("JoinStrings(%q) fails", list)
		}
		if back, ok := impl.SplitString(s, ","); !slices.Equal(back, list) || !ok {
			t.Fatalf("SplitString(%q) = %q, %v", s, back, ok)
		}
	}
}

func TestPartsAreNotChanged(t *testing.T) {
	all := []string{"a", "", "b", "c;", ";"}
	kept := slices.Clone(all)
	if s, ok := impl.JoinStrings(all[:3], ";"); s != "a;;b" || !ok {
		t.Error("elements beyond the length are read", s, ok)
	}
	impl.JoinStrings(all, ";")
	impl.JoinStrings(all, "")
	if !slices.Equal(all, kept) {
		t.Error("the parts are changed", all)
	}
}

func TestSplitResultsAreSeparate(t *testing.T) {
	first, _ := impl.SplitString("a,b,c", ",")
	second, _ := impl.SplitString("a,b,c", ",")
	first[0] = "x"
	_ = append(first[:1], "y", "z")
	if !slices.Equal(second, []string{"a", "b", "c"}) {
		t.Error("two results share memory", second)
	}
}

func TestLessString(t *testing.T) {
	for _, c := range []struct {
		a, b string
		want bool
	}{
		{"a", "ab", true}, {"ab", "a", false}, {"", "a", true}, {"", "", false}, {"a", "", false}, {"a", "a", false},
		{"b", "ab", false}, {"ab", "b", true}, {"A", "a", true}, {"Z", "a", true}, {"10", "9", true}, {"a\x00", "a", false},
		{"\x7f", "\x80", true}, {"\u00e9", "z", false}, {"\xff", "\u20ac", false}, {"\u20ac", "\xff", true},
	} {
		if got := impl.LessString(c.a, c.b); got != c.want {
			t.Errorf("LessString(%q, %q) = %v", c.a, c.b, got)
		}
	}
	long := strings.Repeat("a", 5000)
	if !impl.LessString(long, long+"a") || impl.LessString(long, long) || !impl.LessString(long+"a", long+"b") {
		t.Error("long strings are not compared")
	}
}

func TestLessStringComparesBytes(t *testing.T) {
	all := stringsOver("\x00aA\x80\xff", 3)
	for _, a := range all {
		for _, b := range all {
			if impl.LessString(a, b) != (slices.Compare([]byte(a), []byte(b)) < 0) {
				t.Fatalf("LessString(%q, %q)", a, b)
			}
		}
	}
}

func TestChecksum(t *testing.T) {
	for s, want := range map[string]int{
		"": 7, "a": 385, "ab": 15884, "ba": 15924, "\x00": 288, "\xff": 543, "#": 323, "\u00e9": 19973,
		"abc": 651344, "abcd": 705751,
	} {
		if h, ok := impl.Checksum(s); h != want || !ok {
			t.Errorf("Checksum(%q) = %d, %v", s, h, ok)
		}
	}
	for _, s := range stringsOver("\x00#a\xff", 6) {
		if h, ok := impl.Checksum(s); h != plainChecksum(s) || !ok {
			t.Fatalf("Checksum(%q) = %d, %v", s, h, ok)
		}
	}
}

func TestChecksumLimit(t *testing.T) {
	for _, c := range []string{"\x00", "k", "\xff"} {
		longest := strings.Repeat(c, impl.MaxString)
		if h, ok := impl.Checksum(longest); h != plainChecksum(longest) || !ok {
			t.Errorf("MaxString bytes %q: %d, %v", c, h, ok)
		}
		if h, ok := impl.Checksum(longest + c); h != 0 || ok {
			t.Errorf("MaxString+1 bytes %q: %d, %v", c, h, ok)
		}
	}
}

func TestAppendChecksum(t *testing.T) {
	for s, want := range map[string]string{"a": "a#385", "": "#7", "ab": "ab#15884", "a b\n": "a b\n#" + strconv.Itoa(plainChecksum("a b\n"))} {
		if sealed, ok := impl.AppendChecksum(s); sealed != want || !ok {
			t.Errorf("AppendChecksum(%q) = %q, %v", s, sealed, ok)
		}
	}
	for _, s := range []string{"#", "a#", "#a", "a#b", "a#385", "##"} {
		if sealed, ok := impl.AppendChecksum(s); sealed != "" || ok {
			t.Errorf("AppendChecksum(%q) = %q, %v", s, sealed, ok)
		}
	}
}

func TestAppendChecksumLimit(t *testing.T) {
	s := longestSealable()
	want := s + "#" + strconv.Itoa(plainChecksum(s))
	if sealed, ok := impl.AppendChecksum(s); len(sealed) != impl.MaxString || sealed != want || !ok {
		t.Error("a result of MaxString bytes is not accepted", len(sealed), ok)
	}
	if text, ok := impl.VerifyChecksum(want); text != s || !ok {
		t.Error("a checksummed string of MaxString bytes is not accepted", len(text), ok)
	}
	for size := len(s) - 3; size <= impl.MaxString+2; size++ {
		s := strings.Repeat("k", size)
		want := s + "#" + strconv.Itoa(plainChecksum(s))
		fits := len(want) <= impl.MaxString
		sealed, ok := impl.AppendChecksum(s)
		if ok != fits || fits && sealed != want || !fits && sealed != "" {
			t.Error("checksum of", size, "bytes:", len(sealed), ok)
		}
		if text, ok := impl.VerifyChecksum(want); ok != fits || fits && text != s || !fits && text != "" {
			t.Error("verification of", size, "bytes:", len(text), ok)
		}
	}
}

func TestChecksumsRoundTrip(t *testing.T) {
	for _, s := range stringsOver("a#0\xff", 6) {
		sealed, ok := impl.AppendChecksum(s)
		if ok == strings.Contains(s, "#") {
			t.Fatalf("AppendChecksum(%q) = %q, %v", s, sealed, ok)
		}
		if text, fine := impl.VerifyChecksum(sealed); ok && (text != s || !fine) {
			t.Fatalf("VerifyChecksum(%q) = %q, %v", sealed, text, fine)
		}
	}
}

func TestVerifyChecksumRejects(t *testing.T) {
	for _, s := range []string{
		"", "#", "##", "a", "a#", "a#384", "a#386", "b#385", "a#0385", "a#+385", "a#-385", "a# 385", "a#385 ", " a#385",
		"a#385#", "a#385#1", "#a#385", "a##385", "a#385a", "385", "#07", "#8", "#7#7", "a#1000364", "a#3 85", "a385", "A#385",
		"#385", "a#b#" + strconv.Itoa(plainChecksum("a#b")), "a#385#" + strconv.Itoa(plainChecksum("a#385")),
		strings.Repeat("a", 5000), strings.Repeat("#", 5000), "a#" + strings.Repeat("0", 5000) + "385",
	} {
		if text, ok := impl.VerifyChecksum(s); text != "" || ok {
			t.Errorf("VerifyChecksum(%q) = %q, %v", s, text, ok)
		}
	}
	if text, ok := impl.VerifyChecksum("#7"); text != "" || !ok {
		t.Errorf("VerifyChecksum of the empty text: %q, %v", text, ok)
	}
	if text, ok := impl.VerifyChecksum("a#385"); text != "a" || !ok {
		t.Errorf("VerifyChecksum of a: %q, %v", text, ok)
	}
}

func TestChangedBytesAreDetected(t *testing.T) {
	for _, s := range []string{"", "a", "ab", "0", "385", "p(X) | q(X,a)", "\x00\xff\u00e9", strings.Repeat("k", 50), "line 1\nline 2"} {
		sealed, ok := impl.AppendChecksum(s)
		if !ok {
			t.Fatalf("AppendChecksum(%q) fails", s)
		}
		for i := range len(sealed) {
			for c := range 256 {
				if byte(c) == sealed[i] {
					continue
				}
				changed := sealed[:i] + string([]byte{byte(c)}) + sealed[i+1:]
				if text, ok := impl.VerifyChecksum(changed); text != "" || ok {
					t.Fatalf("VerifyChecksum(%q) = %q, %v", changed, text, ok)
				}
			}
		}
	}
}

func TestChangedBytesOfLongStringsAreDetected(t *testing.T) {
	sealed, _ := impl.AppendChecksum(longestSealable())
	bytes := []byte(sealed)
	for i, old := range bytes {
		for _, c := range []byte{old + 1, old - 1, old ^ 0x80, '#'} {
			if c == old {
				continue
			}
			bytes[i] = c
			if text, ok := impl.VerifyChecksum(string(bytes)); text != "" || ok {
				t.Fatalf("byte %d changed to %d: %d bytes, %v", i, c, len(text), ok)
			}
		}
		bytes[i] = old
	}
}
