package tests

import (
	"math"
	"math/big"
	"slices"
	"strings"
	"testing"

	"loop.example/g03201/impl"
)

// textsOf calls f with every string of at most n bytes of the alphabet.
func textsOf(alphabet string, n int, f func(s string)) {
	list := []string{""}
	for length := 0; length <= n; length++ {
		var longer []string
		for _, s := range list {
			f(s)
			for i := 0; i < len(alphabet); i++ {
				longer = append(longer, s+alphabet[i:i+1])
			}
		}
		list = longer
	}
}

// intOf says by the rules of chapter 2, without ParseInt's means, which int has the text s.
func intOf(s string) (int, bool) {
	digits := strings.TrimPrefix(s, "-")
	if digits == "" || s == "-0" || len(digits) > 1 && digits[0] == '0' {
		return 0, false
	}
	for i := 0; i < len(digits); i++ {
		if digits[i] < '0' || digits[i] > '9' {
			return 0, false
		}
	}
	n, ok := new(big.Int).SetString(s, 10)
	if !ok || !n.IsInt64() {
		return 0, false
	}
	return int(n.Int64()), true
}

func someInts() []int {
	list := []int{0, math.MaxInt, math.MaxInt - 1, math.MinInt, math.MinInt + 1}
	for n := -1200; n <= 1200; n++ {
		list = append(list, n)
	}
	for i, power := 0, 1; i < 19; i, power = i+1, power*10 {
		list = append(list, power-1, power, power+1, -power+1, -power, -power-1)
	}
	for i := 0; i < 63; i++ {
		list = append(list, 1<<i-1, 1<<i, -1<<i, -1<<i-1)
	}
	return list
}

func TestFormatInt(t *testing.T) {
	cases := []struct {
		n    int
		want string
	}{
		{0, "0"},
		{7, "7"},
		{-7, "-7"},
		{10, "10"},
		{-100, "-100"},
		{1234567890, "1234567890"},
		{math.MaxInt, "9223372036854775807"},
		{math.MinInt, "-9223372036854775808"},
	}
	for _, c := range cases {
		if got := impl.FormatInt(c.n); got != c.want {
			t.Errorf("FormatInt(%d) = %q, want %q", c.n, got, c.want)
		}
	}
	for _, n := range someInts() {
		if got, want := impl.FormatInt(n), big.NewInt(int64(n)).String(); got != want {
			t.Errorf("FormatInt(%d) = %q, want %q", n, got, want)
		}
	}
}

func TestIntegersAreRecovered(t *testing.T) {
	for _, n := range someInts() {
		if got, ok := impl.ParseInt(impl.FormatInt(n)); got != n || !ok {
			t.Errorf("ParseInt(FormatInt(%d)) = %d, %v", n, got, ok)
		}
	}
}

func TestParseIntAcceptsOnlyTextsOfIntegers(t *testing.T) {
	textsOf("0129-+ _x\xff", 5, func(s string) {
		want, wantOk := intOf(s)
		if got, ok := impl.ParseInt(s); got != want || ok != wantOk {
			t.Errorf("ParseInt(%q) = %d, %v, want %d, %v", s, got, ok, want, wantOk)
		}
	})
}

func TestParseInt(t *testing.T) {
	cases := []struct {
		s    string
		want int
		ok   bool
	}{
		{"0", 0, true},
		{"42", 42, true},
		{"-42", -42, true},
		{"9223372036854775807", math.MaxInt, true},
		{"-9223372036854775808", math.MinInt, true},
		{"9223372036854775808", 0, false},
		{"-9223372036854775809", 0, false},
		{"18446744073709551616", 0, false},
		{"18446744073709551617", 0, false},
		{"99999999999999999999999999", 0, false},
		{strings.Repeat("9", 4000), 0, false},
		{"", 0, false},
		{"-", 0, false},
		{"--1", 0, false},
		{"-0", 0, false},
		{"+0", 0, false},
		{"+1", 0, false},
		{"00", 0, false},
		{"07", 0, false},
		{"-07", 0, false},
		{"0000000000000000000000001", 0, false},
		{" 1", 0, false},
		{"1 ", 0, false},
		{"- 1", 0, false},
		{"1\n", 0, false},
		{"1\x00", 0, false},
		{"1_000", 0, false},
		{"1,000", 0, false},
		{"1.0", 0, false},
		{"1e3", 0, false},
		{"0x10", 0, false},
		{"ff", 0, false},
		{"1\x80", 0, false},
		{"\xff1", 0, false},
		{"1é", 0, false},
		{"\u0661", 0, false},
		{"\uff11", 0, false},
		{"\u22121", 0, false},
	}
	for _, c := range cases {
		if got, ok := impl.ParseInt(c.s); got != c.want || ok != c.ok {
			t.Errorf("ParseInt(%q) = %d, %v, want %d, %v", c.s, got, ok, c.want, c.ok)
		}
	}
}

func TestIsDigits(t *testing.T) {
	for _, s := range []string{"0", "9", "00", "007", "0123456789", strings.Repeat("5", 3000)} {
		if !impl.IsDigits(s) {
			t.Errorf("IsDigits(%q) = false", s)
		}
	}
	no := []string{
		"", " ", "-1", "+1", "1 ", " 1", "1 2", "1\n", "1.0", "a", "1a", "a1", "/", ":", "0/", ":9", "\x00",
		"\x80", "1\x80", "\xff1", "1\xc3", "1é2", "\u0661", "\uff11", "\ufffd", "1\xed\xa0\x80",
	}
	for _, s := range no {
		if impl.IsDigits(s) {
			t.Errorf("IsDigits(%q) = true", s)
		}
	}
	for b := 0; b < 256; b++ {
		want := '0' <= b && b <= '9'
		one := string([]byte{byte(b)})
		for _, s := range []string{one, one + "0", "0" + one, "1" + one + "2"} {
			if impl.IsDigits(s) != want {
				t.Errorf("IsDigits(%q) = %v", s, !want)
			}
		}
	}
}

func TestIsName(t *testing.T) {
	for _, s := range []string{"a", "z", "a0", "z9", "x1", "abcdefgh", "a1234567", "a9z0b8y1"} {
		if !impl.IsName(s) {
			t.Errorf("IsName(%q) = false", s)
		}
	}
	no := []string{
		"", "0", "1x", "9", "A", "aB", "a_", "a-b", "a b", " a", "a ", "a\n", "a\x00", "`", "{", "a`", "a{", "a/", "a:",
		"abcdefghi", "a12345678", strings.Repeat("a", 4000),
		"\x80", "a\x80", "\xffa", "a\xc3", "é", "aé", "éa", "\uff41", "a\u0661", "\ufffd", "aaaaaaa\u00e9",
	}
	for _, s := range no {
		if impl.IsName(s) {
			t.Errorf("IsName(%q) = true", s)
		}
	}
	for b := 0; b < 256; b++ {
		letter, digit := 'a' <= b && b <= 'z', '0' <= b && b <= '9'
		one := string([]byte{byte(b)})
		if impl.IsName(one) != letter || impl.IsName(one+"a") != letter {
			t.Errorf("IsName with %q first: want %v", one, letter)
		}
		if impl.IsName("a"+one) != (letter || digit) || impl.IsName("a"+one+"b") != (letter || digit) {
			t.Errorf("IsName with %q behind a letter: want %v", one, letter || digit)
		}
	}
}

func TestSplitAny(t *testing.T) {
	cases := []struct {
		s, by string
		want  []string
	}{
		{"", "", []string{""}},
		{"", ",", []string{""}},
		{"abc", "", []string{"abc"}},
		{"abc", ",", []string{"abc"}},
		{"a,b c", ", ", []string{"a", "b", "c"}},
		{"a,b c", " ,", []string{"a", "b", "c"}},
		{"a,b", ",,", []string{"a", "b"}},
		{",", ",", []string{"", ""}},
		{",a", ",", []string{"", "a"}},
		{"a,", ",", []string{"a", ""}},
		{",a,", ",", []string{"", "a", ""}},
		{"a,,b", ",", []string{"a", "", "b"}},
		{"a, b", ", ", []string{"a", "", "b"}},
		{",,,", ",", []string{"", "", "", ""}},
		{"aba", "ab", []string{"", "", "", ""}},
		{"a\x00b", "\x00", []string{"a", "b"}},
		{"a\nb", "\n", []string{"a", "b"}},
		{"xéy", "y", []string{"xé", ""}},
		{"xéy", "é", []string{"x", "", "y"}},
		{"xéy", "\xa9", []string{"x\xc3", "y"}},
		{"xéy", "\xc3", []string{"x", "\xa9y"}},
		{"xéy", "è", []string{"x", "\xa9y"}},
		{"xéy", "\ufffd", []string{"xéy"}},
		{"a\xffb", "\xff", []string{"a", "b"}},
		{"a\xffb", "\xfe", []string{"a\xffb"}},
		{"a\xff\xfeb", "\ufffd", []string{"a\xff\xfeb"}},
		{"\xc3,\xa9", ",", []string{"\xc3", "\xa9"}},
		{"\u20ac\xe2\x82", "\x82", []string{"\xe2", "\xac\xe2", ""}},
	}
	for _, c := range cases {
		if got := impl.SplitAny(c.s, c.by); !slices.Equal(got, c.want) {
			t.Errorf("SplitAny(%q, %q) = %q, want %q", c.s, c.by, got, c.want)
		}
	}
}

func TestSplitAnyByEachByte(t *testing.T) {
	var all []byte
	for b := 0; b < 256; b++ {
		all = append(all, byte(b))
	}
	s := string(all)
	for b := range all {
		got := impl.SplitAny(s, s[b:b+1])
		if want := []string{s[:b], s[b+1:]}; !slices.Equal(got, want) {
			t.Errorf("SplitAny at byte %d = %q", b, got)
		}
	}
	if got := impl.SplitAny(s, s); len(got) != 257 || strings.Join(got, "") != "" {
		t.Errorf("SplitAny at all bytes has %d parts, want 257 empty ones", len(got))
	}
}

// countBytes says how many bytes of s occur in by.
func countBytes(s, by string) int {
	n := 0
	for i := 0; i < len(s); i++ {
		if strings.Contains(by, s[i:i+1]) {
			n++
		}
	}
	return n
}

func TestPartsAreRecovered(t *testing.T) {
	for _, by := range []string{"", ",", ", ", "\n", "é", "\xa9", "a,\xff"} {
		textsOf("a, \n\xc3\xa9\xff", 5, func(s string) {
			parts := impl.SplitAny(s, by)
			if want := countBytes(s, by) + 1; len(parts) != want {
				t.Fatalf("SplitAny(%q, %q) has %d parts, want %d", s, by, len(parts), want)
			}
			text := ""
			for _, part := range parts {
				if countBytes(part, by) > 0 {
					t.Fatalf("SplitAny(%q, %q) = %q keeps a separator", s, by, parts)
				}
				text += part
				if len(text) < len(s) {
					text += s[len(text) : len(text)+1]
				}
			}
			if text != s {
				t.Fatalf("SplitAny(%q, %q) = %q, whose parts give %q", s, by, parts, text)
			}
			if got := impl.Join(parts, by); len(by) == 1 && got != s {
				t.Fatalf("Join(SplitAny(%q, %q)) = %q", s, by, got)
			}
		})
	}
}

func TestSplitLines(t *testing.T) {
	cases := []struct {
		s    string
		want []string
	}{
		{"", nil},
		{"a", []string{"a"}},
		{"a\n", []string{"a"}},
		{"a\nb", []string{"a", "b"}},
		{"a\nb\n", []string{"a", "b"}},
		{"\n", []string{""}},
		{"\n\n", []string{"", ""}},
		{"\na", []string{"", "a"}},
		{"a\n\nb", []string{"a", "", "b"}},
		{"a\n\n", []string{"a", ""}},
		{"a\n ", []string{"a", " "}},
		{"a\r\nb", []string{"a\r", "b"}},
		{"a\rb", []string{"a\rb"}},
		{"a\x00\n\x00", []string{"a\x00", "\x00"}},
		{"é\né", []string{"é", "é"}},
		{"\xc3\n\xa9", []string{"\xc3", "\xa9"}},
		{"\xff\n", []string{"\xff"}},
		{"\xe2\x82\n\xac\n", []string{"\xe2\x82", "\xac"}},
		{"a\u2028b\u0085c", []string{"a\u2028b\u0085c"}},
	}
	for _, c := range cases {
		if got := impl.SplitLines(c.s); !slices.Equal(got, c.want) {
			t.Errorf("SplitLines(%q) = %q, want %q", c.s, got, c.want)
		}
	}
}

func TestLinesAreRecovered(t *testing.T) {
	textsOf("a \r\n\xc3\xa9", 6, func(s string) {
		text := ""
		for _, line := range impl.SplitLines(s) {
			if strings.Contains(line, "\n") {
				t.Fatalf("SplitLines(%q) keeps a newline", s)
			}
			text += line + "\n"
		}
		if s != "" && !strings.HasSuffix(s, "\n") {
			text = text[:max(len(text)-1, 0)]
		}
		if text != s {
			t.Fatalf("the lines of %q give %q", s, text)
		}
	})
}

func TestJoin(t *testing.T) {
	cases := []struct {
		l    []string
		by   string
		want string
	}{
		{nil, ",", ""},
		{[]string{}, ",", ""},
		{[]string{""}, ",", ""},
		{[]string{"a"}, ",", "a"},
		{[]string{"a", "b", "c"}, "-", "a-b-c"},
		{[]string{"a", "b"}, "", "ab"},
		{[]string{"a", "b"}, ", ", "a, b"},
		{[]string{"", ""}, ",", ","},
		{[]string{"", "a", "", ""}, ",", ",a,,"},
		{[]string{",", ","}, ",", ",,,"},
		{[]string{"\xc3", "\xa9"}, "", "é"},
		{[]string{"\xff", "\x00", "é"}, "\xfe", "\xff\xfe\x00\xfeé"},
	}
	for _, c := range cases {
		if got := impl.Join(c.l, c.by); got != c.want {
			t.Errorf("Join(%q, %q) = %q, want %q", c.l, c.by, got, c.want)
		}
	}
}

func TestPadZeros(t *testing.T) {
	long := strings.Repeat("x", 2100)
	cases := []struct {
		s    string
		n    int
		want string
	}{
		{"7", 3, "007"},
		{"7", 2, "07"},
		{"7", 1, "7"},
		{"7", 0, "7"},
		{"7", -1, "7"},
		{"7", math.MinInt, "7"},
		{"123", 2, "123"},
		{"123", 3, "123"},
		{"123", 4, "0123"},
		{"-5", 4, "00-5"},
		{"", 0, ""},
		{"", -3, ""},
		{"", 2, "00"},
		{"ab", 5, "000ab"},
		{"é", 2, "é"},
		{"é", 3, "0é"},
		{"\xff", 2, "0\xff"},
		{"\xff\xfe", 2, "\xff\xfe"},
		{"7", 1999, strings.Repeat("0", 1998) + "7"},
		{"7", 2000, strings.Repeat("0", 1999) + "7"},
		{"", 2000, strings.Repeat("0", 2000)},
		{"7", 2001, "7"},
		{"", 2001, ""},
		{"7", math.MaxInt, "7"},
		{long[:1999], 2000, "0" + long[:1999]},
		{long[:2000], 2000, long[:2000]},
		{long[:2000], 2001, long[:2000]},
		{long, 2000, long},
		{long, 2200, long},
	}
	for _, c := range cases {
		if got := impl.PadZeros(c.s, c.n); got != c.want {
			t.Errorf("PadZeros(%d bytes, %d) = %q, want %q", len(c.s), c.n, got, c.want)
		}
	}
}

// TestTextArgumentsAreKept holds chapter 1 against the functions of chapter 2 that take or return a slice.
func TestTextArgumentsAreKept(t *testing.T) {
	whole := []string{"a", "b", "c", "d"}
	if got := impl.Join(whole[:2], ","); got != "a,b" {
		t.Errorf("Join of a part = %q", got)
	}
	if want := []string{"a", "b", "c", "d"}; !slices.Equal(whole, want) {
		t.Errorf("Join changed its argument to %q", whole)
	}
	for _, split := range []func() []string{
		func() []string { return impl.SplitAny("a,b,c", ",") },
		func() []string { return impl.SplitLines("a\nb\nc\n") },
	} {
		first, second := split(), split()
		first[0], first[2] = "x", "y"
		if want := []string{"a", "b", "c"}; !slices.Equal(second, want) || !slices.Equal(split(), want) {
			t.Errorf("a change of one result shows in another: %q", second)
		}
	}
}
