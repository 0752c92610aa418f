package path

import (
	"fmt"
	"math"
	"math/rand"
	"slices"
	"strings"
	"testing"

	"lorgnette/api"
)

// plainSplit tells P4.2 by bytes.
func plainSplit(p string) []string {
	var l []string
	var seg []byte
	for k := 0; k < len(p); k++ {
		if p[k] == '/' {
			l = append(l, string(seg))
			seg = nil
			continue
		}
		seg = append(seg, p[k])
	}
	return append(l, string(seg))
}

// plainSeg tells P4.1 by a list of all bytes that may be.
func plainSeg(s string) bool {
	for k := 0; k < len(s); k++ {
		if strings.IndexByte("abcdefghijklmnopqrstuvwxyz0123456789_", s[k]) < 0 {
			return false
		}
	}
	return 1 <= len(s) && len(s) <= 16
}

// plainBegins tells P4.6 from the last segment on.
func plainBegins(p, pattern string) bool {
	l, m := plainSplit(p), plainSplit(pattern)
	for len(m) > 0 {
		k := len(m) - 1
		if k >= len(l) || m[k] != "*" && l[k] != m[k] {
			return false
		}
		m = m[:k]
	}
	return true
}

// plainApart tells P4.8 by cutting off what both have.
func plainApart(a, b string) bool {
	l, m := plainSplit(a), plainSplit(b)
	for len(l) > 0 && len(m) > 0 && l[0] == m[0] {
		l, m = l[1:], m[1:]
	}
	return len(l) > 0 && len(m) > 0 && l[0] != "*" && m[0] != "*"
}

// few: all texts of up to that many segments out of these.
func few(most int, segs ...string) []string {
	last := segs
	l := slices.Clone(segs)
	for range most - 1 {
		var next []string
		for _, p := range last {
			for _, s := range segs {
				next = append(next, p+"/"+s)
			}
		}
		l = append(l, next...)
		last = next
	}
	return l
}

// odd: texts that are no paths, and texts at the edges.
func odd() []string {
	long := strings.Repeat("a", api.MaxSeg)
	l := []string{
		"", "/", "//", "a/", "/a", "a//b", "a/b/", "*", "*/a", "a/*", "a/**", "a/*b", "a/b*", "**", "*/*",
		"A", "a b", "a.b", "a-b", "ä", "a/ä", "\xc3/a", "\xc3", "\xff/\xfe", "\xe2\x82/a", "a/\xf0\x9f/b", "\u2215", "a\u2215b", "\x00", "a\n", "a\\b",
		long, long + "a", long + "/" + long, long + "/" + long + "a",
		"a/b/c/d/e/f", "a/b/c/d/e/f/g", "a/*/*/*/*/*", "a/*/*/*/*/*/*", strings.Repeat("/", 300), strings.Repeat("a/", 300),
		strings.Repeat(long+"/", api.MaxSegs-1) + long, strings.Repeat(long+"/", api.MaxSegs) + long,
	}
	for c := range 256 {
		l = append(l, string([]byte{byte(c)}), string([]byte{'a', byte(c), '/', byte(c), 'b'}))
	}
	return l
}

// many: texts of few bytes, most of them such as paths have.
func many(n int) []string {
	r := rand.New(rand.NewSource(1))
	var l []string
	for range n {
		b := make([]byte, r.Intn(12))
		for k := range b {
			b[k] = "aab0_*//\xc3\xa4A"[r.Intn(11)]
		}
		l = append(l, string(b))
	}
	return l
}

func texts() []string {
	return slices.Concat(few(4, "a", "b", "*", ""), odd(), many(2000))
}

func TestSeg(t *testing.T) { // P4.1
	for s, want := range map[string]bool{
		"": false, "a": true, "z": true, "0": true, "9": true, "_": true, "a_9z0": true, "___": true,
		"abcdefghijklmnop": true, "abcdefghijklmnopq": false, "qrstuvwxyz012345": true, "6789_": true,
		strings.Repeat("_", 1000): false,
		"A":                       false, "aZ": false, "*": false, "a*": false, "/": false, "a/b": false, " a": false, "a ": false, "-1": false, "a.": false,
		"`": false, "{": false, ":": false, "^": false, "\x00": false, "a\x00": false, "\x7f": false,
		"ä": false, "aä": false, "\xe4": false, "a\xff": false, "１": false, "ａ": false, "a\u0301": false,
		strings.Repeat("ä", 8): false,
	} {
		if got := Seg(s); got != want {
			t.Errorf("Seg of %q: %v", s, got)
		}
	}
}

func TestSegOfAnyByte(t *testing.T) { // P4.1: wherever it stands
	for c := range 256 {
		for _, around := range [][2]string{{"", ""}, {"a", ""}, {"", "a"}, {"a", "a"}, {strings.Repeat("a", 15), ""}, {"", strings.Repeat("a", 15)}, {"", strings.Repeat("a", 16)}} {
			s := around[0] + string([]byte{byte(c)}) + around[1]
			if got := Seg(s); got != plainSeg(s) {
				t.Errorf("Seg of %q: %v", s, got)
			}
		}
	}
}

func TestSegOfAnyLength(t *testing.T) { // P4.1
	for n := range 70 {
		if got := Seg(strings.Repeat("x", n)); got != (n >= 1 && n <= api.MaxSeg) {
			t.Errorf("Seg of %d bytes: %v", n, got)
		}
	}
}

func TestSplit(t *testing.T) { // P4.2
	for _, c := range []struct {
		p    string
		want []string
	}{
		{"", []string{""}},
		{"a", []string{"a"}},
		{"/", []string{"", ""}},
		{"//", []string{"", "", ""}},
		{"a/", []string{"a", ""}},
		{"/a", []string{"", "a"}},
		{"a/b", []string{"a", "b"}},
		{"a/7/c", []string{"a", "7", "c"}},
		{"a//c", []string{"a", "", "c"}},
		{"a/*/c", []string{"a", "*", "c"}},
		{"a\\b", []string{"a\\b"}},
		{"a/b/c/d/e/f/g/h", []string{"a", "b", "c", "d", "e", "f", "g", "h"}},
		{"ä/ö", []string{"ä", "ö"}},
		{"\xc3/\xa4", []string{"\xc3", "\xa4"}},
		{"\xe2\x82/\xff/", []string{"\xe2\x82", "\xff", ""}},
		{"\u2215/\uff0f", []string{"\u2215", "\uff0f"}},
		{"\xc0\xaf/a", []string{"\xc0\xaf", "a"}},
	} {
		if got := Split(c.p); !slices.Equal(got, c.want) {
			t.Errorf("Split of %q: %q, want %q", c.p, got, c.want)
		}
	}
}

func TestJoin(t *testing.T) { // P4.3
	for _, c := range []struct {
		l    []string
		want string
	}{
		{nil, ""},
		{[]string{}, ""},
		{[]string{""}, ""},
		{[]string{"a"}, "a"},
		{[]string{"", ""}, "/"},
		{[]string{"a", ""}, "a/"},
		{[]string{"", "a"}, "/a"},
		{[]string{"a", "b", "c"}, "a/b/c"},
		{[]string{"a/b", "c"}, "a/b/c"},
		{[]string{"a", "*", "\xff"}, "a/*/\xff"},
		{[]string{"a", "b", "c", "d", "e", "f", "g"}, "a/b/c/d/e/f/g"},
	} {
		if got := Join(c.l); got != c.want {
			t.Errorf("Join of %q: %q, want %q", c.l, got, c.want)
		}
	}
}

func TestSplitAndJoined(t *testing.T) { // P4.2, P4.3: any text is split, and joined it is itself
	for _, p := range texts() {
		l := Split(p)
		if !slices.Equal(l, plainSplit(p)) {
			t.Errorf("Split of %q: %q", p, l)
		}
		if got := Join(l); got != p {
			t.Errorf("%q split and joined: %q", p, got)
		}
	}
}

func TestRight(t *testing.T) { // P4.4
	long := strings.Repeat("x", api.MaxSeg)
	for p, want := range map[string]bool{
		"": false, "a": true, "a/b": true, "todo/7/done": true, "_/_": true, "0": true,
		"a/b/c/d/e/f": true, "a/b/c/d/e/f/g": false,
		"/": false, "a/": false, "/a": false, "a//b": false,
		"*": false, "a/*": false, "a/*/c": false, "a/b*": false,
		"A/b": false, "a/B": false, "a b": false, "a/ä": false, "a/\xff": false,
		long: true, long + "x": false, "a/" + long: true, "a/" + long + "x": false,
		strings.Repeat(long+"/", 5) + long: true, strings.Repeat(long+"/", 5) + long + "x": false, strings.Repeat(long+"/", 6) + long: false,
		"a/b/c/d/e/": false, "a/b/c/d/e/f/": false,
	} {
		if got := Right(p); got != want {
			t.Errorf("Right of %q: %v", p, got)
		}
	}
}

func TestPattern(t *testing.T) { // P4.5
	long := strings.Repeat("x", api.MaxSeg)
	for p, want := range map[string]bool{
		"": false, "a": true, "a/b": true, "a/*": true, "a/*/c": true, "a/*/*": true, "todo/*/done": true,
		"*": false, "*/a": false, "*/*": false, "**": false, "a/**": false, "a/*b": false, "a/b*": false, "a*": false, "a/* ": false,
		"a/*/": false, "a//*": false, "/*": false, "/a/*": false,
		"a/b/c/d/e/f": true, "a/b/c/d/e/*": true, "a/*/*/*/*/*": true,
		"a/b/c/d/e/f/g": false, "a/b/c/d/e/f/*": false, "a/*/*/*/*/*/*": false,
		"A/*": false, "a/*/C": false, "a/*/ä": false, "a/*/\xff": false, "a/?": false,
		long + "/*": true, long + "x/*": false, "a/*/" + long: true, "a/*/" + long + "x": false,
	} {
		if got := Pattern(p); got != want {
			t.Errorf("Pattern of %q: %v", p, got)
		}
	}
}

func TestRightAndPatternOfAnyText(t *testing.T) { // P4.4, P4.5
	for _, p := range texts() {
		l := plainSplit(p)
		right, pattern := len(l) <= 6, len(l) <= 6
		for k, s := range l {
			right = right && plainSeg(s)
			pattern = pattern && (plainSeg(s) || k > 0 && s == "*")
		}
		if Right(p) != right || Pattern(p) != pattern {
			t.Errorf("%q: right %v, pattern %v", p, Right(p), Pattern(p))
		}
	}
}

func TestBeginsAndMatch(t *testing.T) { // P4.6, P4.7
	for _, c := range []struct {
		p, pattern    string
		begins, match bool
	}{
		{"a/7/c", "a/*/c", true, true},
		{"a/7/c", "a/7/c", true, true},
		{"a/7/c", "a/*/*", true, true},
		{"a/7/c", "*/*/*", true, true},
		{"a/7/c", "a/*", true, false},
		{"a/7/c", "a", true, false},
		{"a/7/c", "*", true, false},
		{"a/7/c", "a/*/c/*", false, false},
		{"a/7/c", "a/*/c/", false, false},
		{"a/7/c", "a/*/d", false, false},
		{"a/7/c", "b/*/c", false, false},
		{"a/7/c", "b/*", false, false},
		{"a/7/c", "a/8", false, false},
		{"a/7/c", "a/7/cc", false, false},
		{"a/7/cc", "a/7/c", false, false},
		{"a/77/c", "a/7", false, false},
		{"a", "a/*", false, false},
		{"a", "a", true, true},
		{"a", "b", false, false},
		{"a", "", false, false},
		{"", "", true, true},
		{"", "*", true, true},
		{"", "a", false, false},
		{"/a", "", true, false},
		{"a/", "a/*", true, true},
		{"a/", "a", true, false},
		{"a/*", "a/b", false, false},
		{"a/*", "a/*", true, true},
		{"a/*/c", "a/*", true, false},
		{"a/**", "a/**", true, true},
		{"a/b", "a/**", false, false},
		{"A", "a", false, false},
		{"\xff/\xfe", "*/\xfe", true, true},
		{"\xff/\xfe", "\xfe/*", false, false},
		{"a/b/c/d/e/f/g/h", "a/*/*/*/*/*/*/h", true, true},
		{"a/b/c/d/e/f/g/h", "a/*/*/*/*/*/*/i", false, false},
	} {
		if got := Begins(c.p, c.pattern); got != c.begins {
			t.Errorf("whether %q begins with %q: %v", c.p, c.pattern, got)
		}
		if got := Match(c.p, c.pattern); got != c.match {
			t.Errorf("whether %q matches %q: %v", c.p, c.pattern, got)
		}
	}
}

func TestApart(t *testing.T) { // P4.8
	for _, c := range []struct {
		a, b string
		want bool
	}{
		{"a", "b", true},
		{"a", "a", false},
		{"a", "a/b", false},
		{"a/b", "a/c", true},
		{"a/b/x", "a/c", true},
		{"a/*", "a/b", false},
		{"a/*", "a/*", false},
		{"a/*/c", "a/*/d", true},
		{"a/*/c", "a/b/d", false}, // they part behind a * that only one has
		{"a/*/c", "b/*/c", true},
		{"a/b/*", "a/*/b", false},
		{"a/*/b/c", "a/*/*/d", false},
		{"a/*/b/c", "a/*/d/*", true},
		{"a/b/c", "a/b/c/d", false},
		{"a/b/c", "a/b/*", false},
		{"*", "a", false},
		{"*/a", "*/b", true},
		{"*/a", "b/c", false},
		{"", "", false},
		{"", "a", true},
		{"", "*", false},
		{"/a", "", false},
		{"a/", "a", false},
		{"a/", "a/b", true},
		{"a", "aa", true},
		{"a/**", "a/b", true},
		{"a/**", "a/*", false},
		{"\xff", "\xfe", true},
		{"a/b/c/d/e/f/g", "a/b/c/d/e/f/h", true},
	} {
		if Apart(c.a, c.b) != c.want || Apart(c.b, c.a) != c.want {
			t.Errorf("whether %q and %q are apart: %v, %v", c.a, c.b, Apart(c.a, c.b), Apart(c.b, c.a))
		}
	}
}

func TestAnyTwo(t *testing.T) { // P4.6, P4.7, P4.8
	l := slices.Concat(few(4, "a", "b", "*", ""), odd()[:45], many(150))
	for _, a := range l {
		for _, b := range l {
			begins := plainBegins(a, b)
			if Begins(a, b) != begins || Match(a, b) != (begins && len(plainSplit(a)) == len(plainSplit(b))) {
				t.Fatalf("%q, by %q: begins %v, matches %v", a, b, Begins(a, b), Match(a, b))
			}
			if Apart(a, b) != plainApart(a, b) {
				t.Fatalf("whether %q and %q are apart: %v", a, b, Apart(a, b))
			}
		}
	}
}

func TestNoPathFitsTwoThatAreApart(t *testing.T) { // P4.10
	patterns, paths := few(3, "a", "b", "*"), few(4, "a", "b", "c", "*", "")
	apart, fit := 0, 0
	for _, a := range patterns {
		for _, b := range patterns {
			if !Apart(a, b) {
				continue
			}
			apart++
			for _, p := range paths {
				if Begins(p, a) {
					fit++
				}
				if Begins(p, a) && Begins(p, b) || Match(p, a) && Match(p, b) {
					t.Fatalf("%q fits %q and %q", p, a, b)
				}
			}
		}
	}
	if apart == 0 || fit == 0 {
		t.Fatalf("nothing was tried: %d, %d", apart, fit)
	}
}

func TestSwap(t *testing.T) { // P4.9
	for _, c := range []struct {
		p    string
		at   int
		l    []string
		want string
	}{
		{"a/b/c", 0, []string{"x"}, "x/b/c"},
		{"a/b/c", 1, []string{"x"}, "a/x/c"},
		{"a/b/c", 2, []string{"x"}, "a/b/x"},
		{"a/b/c", 3, []string{"x"}, "a/b/c"},
		{"a/b/c", 4, nil, "a/b/c"},
		{"a/b/c", -1, []string{"x"}, "a/b/c"},
		{"a/b/c", math.MinInt, []string{"x"}, "a/b/c"},
		{"a/b/c", math.MaxInt, []string{"x"}, "a/b/c"},
		{"a/b/c", 0, nil, "b/c"},
		{"a/b/c", 1, []string{}, "a/c"},
		{"a/b/c", 2, nil, "a/b"},
		{"a/b/c", 1, []string{"x", "y", "z"}, "a/x/y/z/c"},
		{"a/b/c", 1, []string{"x", "b"}, "a/x/b/c"},
		{"a/b/c", 1, []string{""}, "a//c"},
		{"a/b/c", 1, []string{"*"}, "a/*/c"},
		{"a/b/c", 1, []string{"x/y"}, "a/x/y/c"},
		{"a", 0, nil, ""},
		{"a", 0, []string{"x", "y"}, "x/y"},
		{"a", 1, []string{"x"}, "a"},
		{"", 0, []string{"x"}, "x"},
		{"", 0, nil, ""},
		{"", 1, []string{"x"}, ""},
		{"/", 0, nil, ""},
		{"/", 1, []string{"x"}, "/x"},
		{"a/a/a", 1, []string{"b"}, "a/b/a"},
		{"a/\xff/c", 1, []string{"\xfe"}, "a/\xfe/c"},
		{"a/b/c/d/e/f", 5, []string{"x", "y"}, "a/b/c/d/e/x/y"}, // longer than a path may be, and told whole
		{"a/b/c/d/e/f/g/h", 7, []string{"x"}, "a/b/c/d/e/f/g/x"},
	} {
		if got := Swap(c.p, c.at, c.l...); got != c.want {
			t.Errorf("Swap of %q at %d for %q: %q, want %q", c.p, c.at, c.l, got, c.want)
		}
	}
}

func TestSwapped(t *testing.T) { // P4.11
	swaps := [][]string{nil, {"x"}, {"a"}, {""}, {"*"}, {"x", "y"}, {"", ""}, {"x", "y", "z", "x", "y", "z", "x"}}
	for _, p := range slices.Concat(few(4, "a", "b", "*", ""), odd()[:45]) {
		had := plainSplit(p)
		for at := -2; at < len(had)+2; at++ {
			for _, l := range swaps {
				var want []string
				for k, s := range had {
					if k == at {
						want = append(want, l...)
						continue
					}
					want = append(want, s)
				}
				if len(want) == 0 {
					want = []string{""} // a text without segments there is not
				}
				if got := Split(Swap(p, at, l...)); !slices.Equal(got, want) {
					t.Fatalf("Swap of %q at %d for %q: %q, want %q", p, at, l, got, want)
				}
			}
		}
	}
}

func TestListsAreNotChanged(t *testing.T) { // R3: nor the room behind them
	room := []string{"x", "y", "behind", "it"}
	if got := Swap("a/b/c", 0, room[:2]...); got != "x/y/b/c" {
		t.Errorf("swapped: %q", got)
	}
	if got := Join(room[:2]); got != "x/y" {
		t.Errorf("joined: %q", got)
	}
	if !slices.Equal(room, []string{"x", "y", "behind", "it"}) {
		t.Errorf("changed: %q", room)
	}
	first := Split("a/b")
	first[0] = "x"
	if second := Split("a/b"); second[0] != "a" {
		t.Errorf("kept: %q", second)
	}
}

func TestTheSameIsToldAgain(t *testing.T) { // R4
	tell := func() string {
		var b strings.Builder
		for _, p := range texts() {
			fmt.Fprint(&b, Seg(p), Split(p), Right(p), Pattern(p), Match(p, "a/*"), Begins(p, "a"), Apart(p, "a/b"), Swap(p, 1, "x"))
		}
		return b.String()
	}
	if tell() != tell() {
		t.Error("not the same")
	}
}

func TestLongTexts(t *testing.T) { // R1
	for _, p := range []string{strings.Repeat("a", 1<<20), strings.Repeat("/", 1<<20), strings.Repeat("a/", 1<<19), strings.Repeat("\xff", 1<<20)} {
		if Seg(p) || Right(p) || Pattern(p) {
			t.Errorf("%q.. is a path", p[:4])
		}
		if Join(Split(p)) != p || !Match(p, p) || !Begins(p, p) || Apart(p, p) || Apart(p+"/a", p+"/b") != true {
			t.Errorf("%q.. is not itself", p[:4])
		}
	}
}
