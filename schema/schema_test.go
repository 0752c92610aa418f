package schema

import (
	"fmt"
	"math"
	"math/rand"
	"slices"
	"strings"
	"testing"

	"lorgnette/api"
	"lorgnette/path"
	"lorgnette/val"
	"lorgnette/varint"
)

// number, text and truth are values, shortly.
func number(n int) api.Value  { return api.Value{Kind: api.ValInt, Int: n} }
func text(s string) api.Value { return api.Value{Kind: api.ValText, Text: s} }
func truth(n int) api.Value   { return api.Value{Kind: api.ValBool, Int: n} }

// reg is a register that has v where nobody wrote.
func reg(p string, v api.Value) api.Field {
	return api.Field{Path: p, Kind: api.FieldReg, Type: v.Kind, Def: v}
}

// set is a set of values of that kind.
func set(p string, of int) api.Field {
	return api.Field{Path: p, Kind: api.FieldSet, Type: of}
}

// ctr is a counter.
func ctr(p string) api.Field {
	return api.Field{Path: p, Kind: api.FieldCtr, Type: api.ValInt}
}

// schema is a schema as it is written down.
func schema(l ...api.Field) api.Schema {
	return api.Schema{Fields: l}
}

// five is a schema that is right, with fields of all kinds.
var five = schema(reg("name", text("")), set("tags", api.ValText), reg("todo/*/done", truth(0)), ctr("todo/*/seen"), reg("year", number(-5)))

// longest is the longest path: six segments of 16 bytes.
var longest = strings.Repeat("abcdefghijklmno0/", 6)[:101]

// full is a schema with as many fields as there may be.
func full() api.Schema {
	var s api.Schema
	for k := range api.MaxFields {
		s.Fields = append(s.Fields, set("a/"+string(rune('a'+k)), api.ValInt+k%3))
	}
	return s
}

// edges: schemas that are right, with the most and the longest parts.
func edges() []api.Schema {
	return []api.Schema{
		{},
		schema(reg("a", number(0))),
		schema(reg("_", number(math.MinInt)), reg("a", number(math.MaxInt))),
		schema(reg(longest, text(strings.Repeat("\xff", api.MaxText)))),
		schema(set("a/*/*/*/*/*", api.ValBool)),
		schema(set("a/*/b", api.ValBool), set("a/*/c", api.ValText), ctr("b")),
		full(),
		five,
	}
}

// somePaths: patterns, most of which part from one another.
var somePaths = []string{"a", "aa", "b", "c/a", "c/b", "d/*", "e/*/a", "e/*/b", "e/*/b0", "f/*/*", "f0", "g/a/a/a/a/a", longest}

// someField is a field, which is right or, if asked for, may be wrong.
func someField(r *rand.Rand, wrong bool) api.Field {
	p := somePaths[r.Intn(len(somePaths))]
	f := []api.Field{reg(p, number(r.Intn(9)-4)), reg(p, text("ada")), reg(p, truth(r.Intn(2))), set(p, 1+r.Intn(3)), ctr(p)}[r.Intn(5)]
	if !wrong {
		return f
	}
	switch r.Intn(12) {
	case 0:
		f.Path = []string{"", "*", "*/a", "A", "a//b", "/", "a/*b", "e/x/a", "c", "c/*", strings.Repeat("x", 200)}[r.Intn(11)]
	case 1:
		f.Kind = []int{0, 1, 2, 3, 4, 5, -1, math.MaxInt, math.MinInt}[r.Intn(9)]
	case 2:
		f.Type = []int{0, 1, 2, 3, 4, 5, -1, math.MaxInt, math.MinInt}[r.Intn(9)]
	case 3:
		f.Def = []api.Value{{}, number(0), text(""), truth(0), truth(2), {Kind: 1, Text: "a"}, {Kind: 2, Int: 1}, {Int: 1}, {Text: "a"}, {Kind: 9}}[r.Intn(10)]
	}
	return f
}

// drawn: schemas of fields with other paths each, rising; right or, if asked for, maybe wrong, with some fields exchanged.
func drawn(seed int64, n int, wrong bool) []api.Schema {
	r := rand.New(rand.NewSource(seed))
	var l []api.Schema
	for range n {
		m := map[string]api.Field{}
		var paths []string
		for range r.Intn(9) {
			f := someField(r, wrong)
			m[f.Path] = f
			paths = append(paths, f.Path)
		}
		slices.Sort(paths)
		var s api.Schema
		for _, p := range slices.Compact(paths) {
			s.Fields = append(s.Fields, m[p])
		}
		if many := len(s.Fields); wrong && many > 1 && r.Intn(4) == 0 {
			j, k := r.Intn(many), r.Intn(many)
			s.Fields[j], s.Fields[k] = s.Fields[k], s.Fields[j]
		}
		l = append(l, s)
	}
	return l
}

// rights: schemas that are right.
func rights() []api.Schema {
	return slices.Concat(edges(), drawn(1, 1500, false))
}

// wrongFields: fields that are not right.
func wrongFields() []api.Field {
	var l []api.Field
	for _, f := range []api.Field{reg("a", number(5)), reg("a", text("b")), reg("a", truth(1)), set("a", api.ValInt), set("a", api.ValText), set("a", api.ValBool), ctr("a")} {
		add := func(change func(f *api.Field)) {
			g := f
			change(&g)
			if !plainFieldRight(g) {
				l = append(l, g)
			}
		}
		for _, p := range []string{"", "/", "a/", "/a", "*", "*/a", "a//b", "a/**", "a/*b", "A", "a b", "ä", "a/b/c/d/e/f/g", "a/*/*/*/*/*/*", longest + "a", longest + "/a", "abcdefghijklmnopq"} {
			add(func(f *api.Field) { f.Path = p })
		}
		for _, n := range []int{0, 1, 2, 3, 4, 5, 6, 7, -1, -2, -3, 1 << 32, 1<<32 + 1, 1<<32 + 2, 1<<32 + 3, math.MinInt, math.MaxInt} {
			add(func(f *api.Field) { f.Kind = n })
			add(func(f *api.Field) { f.Type = n })
			add(func(f *api.Field) { f.Def.Kind = n })
			add(func(f *api.Field) { f.Type, f.Def.Kind = n, n })
			add(func(f *api.Field) { f.Def.Int = n })
		}
		for _, s := range []string{"", "a", strings.Repeat("x", api.MaxText), strings.Repeat("x", api.MaxText+1)} {
			add(func(f *api.Field) { f.Def.Text = s })
		}
		for _, v := range []api.Value{{}, number(0), text(""), truth(0)} {
			add(func(f *api.Field) { f.Def = v })
		}
	}
	return l
}

// wrongs: schemas that are not right.
func wrongs() []api.Schema {
	var l []api.Schema
	for _, f := range wrongFields() {
		l = append(l, schema(f), schema(reg("0", number(1)), f), schema(f, reg("z", number(1))))
	}
	a, b, c := reg("a", number(1)), set("b", api.ValText), ctr("c")
	l = append(l,
		schema(b, a), schema(a, c, b), schema(c, a, b), schema(b, c, a), // not rising
		schema(a, a), schema(a, b, b), schema(a, set("a", api.ValInt)), // twice
		schema(ctr("aa"), ctr("a")), schema(ctr("a/b"), ctr("a/*")), // likewise
		schema(ctr("a"), ctr("a/b")), schema(ctr("a"), ctr("a/*")), schema(ctr("a"), ctr("aa"), ctr("a/b")), // not apart, side by side or not
		schema(ctr("a"), ctr("a/b"), ctr("b")), schema(ctr("a/*"), ctr("a/b")), schema(ctr("a/*/b"), ctr("a/b/c")),
		schema(ctr("a/*"), ctr("a/*/b")), schema(ctr("a/*/b"), ctr("a/a/b")), schema(ctr("a"), ctr("b"), ctr("b0"), ctr("b1"), ctr("b/*")),
		schema(ctr("a"), ctr("a0"), ctr("a/b")),
	)
	more := full()
	more.Fields = append(more.Fields, ctr("a/z"))
	return append(l, more, schema(append(slices.Clone(more.Fields), ctr("b"))...))
}

// all: schemas of every sort.
func all() []api.Schema {
	return slices.Concat(rights(), wrongs(), drawn(2, 1500, true))
}

// plainFieldRight is whether f is right, by P11.1's words.
func plainFieldRight(f api.Field) bool {
	register := f.Kind == 1 && val.Right(f.Def) && f.Def.Kind == f.Type
	zero := f.Def.Kind == 0 && f.Def.Int == 0 && f.Def.Text == ""
	other := zero && (f.Kind == 2 && (f.Type == 1 || f.Type == 2 || f.Type == 3) || f.Kind == 3 && f.Type == 1)
	return path.Pattern(f.Path) && (register || other)
}

// plainRight is whether s is right, by P11.2's words.
func plainRight(s api.Schema) bool {
	right := len(s.Fields) <= 24
	for k, f := range s.Fields {
		right = right && plainFieldRight(f) && (k == 0 || s.Fields[k-1].Path < f.Path)
		for j, g := range s.Fields {
			right = right && (j == k || path.Apart(f.Path, g.Path))
		}
	}
	return right
}

// plainSame is whether two schemas are the same, one thing behind another.
func plainSame(a, b api.Schema) bool {
	same := len(a.Fields) == len(b.Fields)
	for k := 0; same && k < len(a.Fields); k++ {
		same = a.Fields[k] == b.Fields[k]
	}
	return same
}

// clone is s in memory of its own.
func clone(s api.Schema) api.Schema {
	return schema(slices.Clone(s.Fields)...)
}

func TestFieldRight(t *testing.T) { // P11.1
	for _, f := range []api.Field{
		reg("a", number(0)), reg("a", number(-5)), reg("a", number(math.MinInt)), reg("a", number(math.MaxInt)),
		reg("a", text("")), reg("a", text("ada")), reg("a", text(strings.Repeat("x", api.MaxText))), reg("a", text("\xff\n")),
		reg("a", truth(0)), reg("a", truth(1)),
		set("a", api.ValInt), set("a", api.ValText), set("a", api.ValBool), ctr("a"),
		ctr("todo/*/seen"), set("a/*", api.ValText), reg(longest, number(1)), reg("_/0/9/*/*/z", truth(1)),
	} {
		if !FieldRight(f) {
			t.Errorf("%+v is not right", f)
		}
	}
	for _, f := range wrongFields() {
		if FieldRight(f) {
			t.Errorf("%+v is right", f)
		}
	}
	for _, f := range []api.Field{
		{}, {Path: "a"}, {Path: "a", Kind: api.FieldReg}, {Path: "a", Kind: api.FieldSet}, {Path: "a", Kind: api.FieldCtr},
		{Path: "a", Kind: api.FieldReg, Type: api.ValInt},                         // a register without anything
		{Path: "a", Kind: api.FieldReg, Type: api.ValInt, Def: text("a")},         // with a value of another kind
		{Path: "a", Kind: api.FieldReg, Type: api.ValBool, Def: truth(2)},         // with one that is not right
		{Path: "a", Kind: api.FieldSet, Type: api.ValInt, Def: number(0)},         // a set with something
		{Path: "a", Kind: api.FieldSet, Type: 4},                                  // of a kind that there is not
		{Path: "a", Kind: api.FieldCtr, Type: api.ValInt, Def: number(0)},         // a counter with something
		{Path: "a", Kind: api.FieldCtr, Type: api.ValText},                        // of texts
		{Path: "a", Kind: api.FieldCtr, Type: api.ValBool},                        // of truths
		{Path: "a", Kind: api.FieldCtr, Type: api.ValInt, Def: api.Value{Int: 1}}, // with a part of something
		{Path: "a", Kind: api.FieldSet, Type: api.ValInt, Def: api.Value{Text: "a"}},
		{Path: "*", Kind: api.FieldCtr, Type: api.ValInt},
	} {
		if FieldRight(f) {
			t.Errorf("%+v is right", f)
		}
	}
}

func TestFieldRightOfAnyField(t *testing.T) { // P11.1: all small numbers, together in any way
	many := 0
	for kind := -1; kind <= 5; kind++ {
		for of := -1; of <= 5; of++ {
			for def := -1; def <= 5; def++ {
				for n := -1; n <= 2; n++ {
					for _, s := range []string{"", "a"} {
						for _, p := range []string{"a", "a/*", "*", ""} {
							f := api.Field{Path: p, Kind: kind, Type: of, Def: api.Value{Kind: def, Int: n, Text: s}}
							want := plainFieldRight(f)
							if got := FieldRight(f); got != want {
								t.Fatalf("whether %+v is right: %t", f, got)
							}
							if want {
								many++
							}
						}
					}
				}
			}
		}
	}
	if many != 2*(4+2+2+3+1) {
		t.Errorf("%d of these are right", many)
	}
}

func TestRight(t *testing.T) { // P11.2
	for _, s := range rights() {
		if !Right(s) {
			t.Errorf("%+v is not right", s)
		}
	}
	for _, s := range wrongs() {
		if Right(s) {
			t.Errorf("%+v is right", s)
		}
	}
	right, wrong := 0, 0
	for _, s := range drawn(3, 20000, true) {
		want := plainRight(s)
		if got := Right(s); got != want {
			t.Fatalf("whether %+v is right: %t", s, got)
		}
		if want {
			right++
		} else {
			wrong++
		}
	}
	if right < 100 || wrong < 100 {
		t.Errorf("%d of these are right, and %d are not: too few to tell", right, wrong)
	}
}

// few: all patterns of up to three segments out of a, b and *, the first of which is no *.
func few() []string {
	l := []string{"a", "b"}
	for _, p := range []string{"a", "b"} {
		for _, q := range []string{"a", "b", "*"} {
			l = append(l, p+"/"+q)
			for _, r := range []string{"a", "b", "*"} {
				l = append(l, p+"/"+q+"/"+r)
			}
		}
	}
	return l
}

func TestRightOfAnyPaths(t *testing.T) { // P11.2: any two, any three
	l := few()
	for _, p := range l {
		for _, q := range l {
			two := schema(ctr(p), ctr(q))
			if got := Right(two); got != plainRight(two) {
				t.Fatalf("whether %+v is right: %t", two, got)
			}
			for _, r := range l {
				three := schema(ctr(p), ctr(q), ctr(r))
				if got := Right(three); got != plainRight(three) {
					t.Fatalf("whether %+v is right: %t", three, got)
				}
			}
		}
	}
}

func TestRightByHowManyFields(t *testing.T) { // P11.2
	var s api.Schema
	for k := range 60 {
		if got := Right(s); got != (k <= 24) {
			t.Errorf("whether one of %d fields is right: %t", k, got)
		}
		s.Fields = append(s.Fields, ctr(fmt.Sprintf("a%02d", k)))
	}
}

// plainOf tells P11.3 by taking the first of the least paths again and again.
func plainOf(l []api.Field) api.Schema {
	var s api.Schema
	left := slices.Clone(l)
	for len(left) > 0 {
		least := 0
		for k, f := range left {
			if f.Path < left[least].Path {
				least = k
			}
		}
		s.Fields = append(s.Fields, left[least])
		left = slices.Delete(left, least, least+1)
	}
	return s
}

func TestOf(t *testing.T) { // P11.3
	a, b, c := reg("a", number(1)), set("b", api.ValText), ctr("c")
	for _, x := range []struct {
		l    []api.Field
		want api.Schema
	}{
		{nil, api.Schema{}},
		{[]api.Field{}, api.Schema{}},
		{[]api.Field{a}, schema(a)},
		{[]api.Field{a, b, c}, schema(a, b, c)},
		{[]api.Field{c, b, a}, schema(a, b, c)},
		{[]api.Field{b, c, a}, schema(a, b, c)},
		{[]api.Field{b, a, b}, schema(a, b, b)}, // the same twice stays so
		{[]api.Field{ctr("b"), a, set("b", api.ValText), set("b", api.ValInt), ctr("a")}, schema(a, ctr("a"), ctr("b"), set("b", api.ValText), set("b", api.ValInt))},
		{[]api.Field{ctr("a0"), ctr("a/b"), ctr("a_"), ctr("a"), ctr("a/*"), ctr("aa")}, schema(ctr("a"), ctr("a/*"), ctr("a/b"), ctr("a0"), ctr("a_"), ctr("aa"))}, // byte by byte
		{[]api.Field{{Path: "\xff"}, {Path: "ä"}, {Path: "z"}, {Path: ""}, {Path: "Z"}, {Path: "\x00"}}, schema(api.Field{}, api.Field{Path: "\x00"}, api.Field{Path: "Z"}, api.Field{Path: "z"}, api.Field{Path: "ä"}, api.Field{Path: "\xff"})},
		{[]api.Field{{Path: "b", Kind: -1}, {Path: "a", Kind: 9, Type: -9, Def: number(1)}}, schema(api.Field{Path: "a", Kind: 9, Type: -9, Def: number(1)}, api.Field{Path: "b", Kind: -1})},
	} {
		if got := Of(x.l...); !plainSame(got, x.want) {
			t.Errorf("Of %+v: %+v, want %+v", x.l, got, x.want)
		}
	}
	r := rand.New(rand.NewSource(4))
	for range 3000 {
		var l []api.Field
		for k := range r.Intn(60) {
			f := someField(r, true)
			f.Def.Int = k // so that each one is another one
			l = append(l, f)
		}
		if got, want := Of(l...), plainOf(l); !plainSame(got, want) {
			t.Fatalf("Of %+v: %+v, want %+v", l, got, want)
		}
	}
}

func TestFind(t *testing.T) { // P11.4
	f := five.Fields
	for _, x := range []struct {
		p    string
		want int // -1 of nothing
	}{
		{"name", 0}, {"tags", 1}, {"todo/7/done", 2}, {"todo/x_0/seen", 3}, {"year", 4},
		{"todo/*/done", 2},    // a pattern, as path.Match has it
		{"todo//done", 2},     // what is no path, likewise
		{"todo/A b/done", 2},  //
		{"todo/\xff/seen", 3}, //
		{"", -1}, {"nam", -1}, {"names", -1}, {"name/", -1}, {"name/a", -1}, {"/name", -1}, {"*", -1}, {"Name", -1},
		{"todo", -1}, {"todo/7", -1}, {"todo/7/don", -1}, {"todo/7/done/x", -1}, {"todo/7/8/done", -1}, {"todo/7/*", -1}, {"done", -1},
		{strings.Repeat("/", 5000), -1},
	} {
		got, there := Find(five, x.p)
		if x.want < 0 && (there || got != api.Field{}) || x.want >= 0 && (!there || got != f[x.want]) {
			t.Errorf("Find of %q: %+v, %t", x.p, got, there)
		}
		if got, there := Find(api.Schema{}, x.p); there || got != (api.Field{}) {
			t.Errorf("Find of %q in nothing: %+v, %t", x.p, got, there)
		}
	}
	several := schema(ctr("b"), set("a/*", api.ValInt), ctr("a/b"), set("a/*", api.ValText), api.Field{Path: "*"}, api.Field{}) // one that is not right: the first in the list
	for p, want := range map[string]int{"a/b": 1, "a/c": 1, "b": 0, "c": 4, "": 4} {
		if got, there := Find(several, p); !there || got != several.Fields[want] {
			t.Errorf("Find of %q: %+v, %t", p, got, there)
		}
	}
	if got, there := Find(schema(api.Field{}), ""); !there || got != (api.Field{}) {
		t.Errorf("Find of no path, where it is one: %+v, %t", got, there)
	}
}

// plainBegins is whether p has no more segments than the pattern, and each is the pattern's, or * is.
func plainBegins(p, pattern string) bool {
	l, m := strings.Split(p, "/"), strings.Split(pattern, "/")
	begins := len(l) <= len(m)
	for k := 0; begins && k < len(l); k++ {
		begins = m[k] == "*" || m[k] == l[k]
	}
	return begins
}

// asked: paths to ask for, right or not.
func asked() []string {
	l := slices.Concat(few(), somePaths, []string{"", "/", "*", "*/a", "c", "c/x", "d", "d/x", "d/*", "e", "e/x", "e/x/a", "e/x/b", "e/x/c", "e/x/b0", "e/x/b/y", "e/*/a", "e//a", "f", "f/x", "f/x/y", "f/x/y/z", "g/a", "g/a/a", "g/a/b", "g/a/a/a/a/a/a", longest[:16], longest[:15], longest[:33], longest[:34], longest + "/a", longest + "a"})
	for _, f := range five.Fields {
		l = append(l, f.Path, strings.ReplaceAll(f.Path, "*", "7"), strings.TrimSuffix(f.Path, "/done"))
	}
	return l
}

func TestFindAndUnderOfAnySchema(t *testing.T) { // P11.4, P11.5
	found, under := 0, 0
	for _, s := range all() {
		for _, p := range asked() {
			var want api.Field
			is, below := false, false
			for _, f := range s.Fields {
				begins := plainBegins(p, f.Path)
				below = below || begins
				if !is && begins && strings.Count(p, "/") == strings.Count(f.Path, "/") {
					want, is = f, true
				}
			}
			if got, there := Find(s, p); got != want || there != is {
				t.Fatalf("Find of %q in %+v: %+v, %t", p, s, got, there)
			}
			if got := Under(s, p); got != below {
				t.Fatalf("whether %+v has something under %q: %t", s, p, got)
			}
			if is {
				found++
			}
			if below {
				under++
			}
		}
	}
	if found < 1000 || under < found+1000 {
		t.Errorf("%d found, %d under: too few to tell", found, under)
	}
}

func TestUnder(t *testing.T) { // P11.5
	s := schema(ctr("a/b/c"), set("b/*/c", api.ValText), reg("c/*", number(0)), reg("name", text("")))
	for p, want := range map[string]bool{
		"a": true, "a/b": true, "a/b/c": true, "a/b/c/d": false, "a/c": false, "a/b/d": false, "a/*": false, "a/*/c": false,
		"b": true, "b/7": true, "b/*": true, "b/7/c": true, "b/*/c": true, "b/7/d": false, "b/7/c/d": false, "b/c": true, "b//c": true, "b/\xff": true, "b/": true,
		"c": true, "c/x": true, "c/x/y": false, "name": true, "nam": false, "names": false, "name/a": false,
		"": false, "/": false, "*": false, "*/b": false, "*/*/*": false, "d": false, "A": false, "/a": false, "a/b/": false, "a//c": false,
		strings.Repeat("a/", 5000): false,
	} {
		if got := Under(s, p); got != want {
			t.Errorf("whether there is something under %q: %t", p, got)
		}
		if Under(api.Schema{}, p) {
			t.Errorf("there is something under %q in nothing", p)
		}
	}
	odd := schema(api.Field{}, api.Field{Path: "*/b"}, api.Field{Path: "/c"}) // one that is not right
	for p, want := range map[string]bool{"": true, "x": true, "x/b": true, "x/c": false, "/c": true, "/": false, "/b": true, "x/b/c": false} {
		if got := Under(odd, p); got != want {
			t.Errorf("whether there is something under %q: %t", p, got)
		}
	}
}

func TestPut(t *testing.T) { // P11.6
	long := strings.Repeat("x", 300)
	for _, x := range []struct {
		s    api.Schema
		want string
	}{
		{api.Schema{}, "\x00"},
		{schema(reg("todo/*/done", truth(0))), "\x01\x0btodo/*/done\x01\x03\x03\x00"},
		{schema(ctr("a"), set("b", api.ValText), reg("c", number(-5)), reg("d", text("ab"))), "\x04\x01a\x03\x01\x00\x01b\x02\x02\x00\x01c\x01\x01\x01\x09\x01d\x01\x02\x02\x02ab"},
		{schema(api.Field{}), "\x01\x00\x00\x00\x00"}, // what is not right is put, too
		{schema(ctr("b"), ctr("a"), ctr("a")), "\x03\x01b\x03\x01\x00\x01a\x03\x01\x00\x01a\x03\x01\x00"},
		{schema(api.Field{Path: "A b", Kind: 4, Type: 4}), "\x01\x03A b\x00\x00\x00"}, // by the lowest two bits
		{schema(api.Field{Kind: 5, Type: 6}), "\x01\x00\x01\x02\x00"},
		{schema(api.Field{Kind: 6, Type: 7}), "\x01\x00\x02\x03\x00"},
		{schema(api.Field{Kind: 7, Type: 5}), "\x01\x00\x03\x01\x00"},
		{schema(api.Field{Kind: -1, Type: -2}), "\x01\x00\x03\x02\x00"},
		{schema(api.Field{Kind: -3, Type: -4}), "\x01\x00\x01\x00\x00"},
		{schema(api.Field{Kind: math.MinInt, Type: math.MaxInt}), "\x01\x00\x00\x03\x00"},
		{schema(api.Field{Kind: math.MaxInt, Type: math.MinInt}), "\x01\x00\x03\x00\x00"},
		{schema(api.Field{Kind: 3, Type: 1, Def: number(1)}), "\x01\x00\x03\x01\x01\x02"},
		{schema(api.Field{Kind: 1, Type: 1, Def: api.Value{Kind: 6, Int: 1, Text: long}}), "\x01\x00\x01\x01\x02\xac\x02" + long},
		{schema(api.Field{Path: long}), "\x01\xac\x02" + long + "\x00\x00\x00"},
		{schema(make([]api.Field, 200)...), "\xc8\x01" + strings.Repeat("\x00", 800)},
	} {
		for _, b := range []string{"", "b", "\x80\xff"} {
			if got := Put(b, x.s); got != b+x.want {
				t.Errorf("Put behind %x of %+v: %x, want %x", b, x.s, got, x.want)
			}
		}
	}
	for _, s := range all() {
		want := varint.Put("b", uint64(len(s.Fields)))
		for _, f := range s.Fields {
			want = varint.Text(want, f.Path)
			want = varint.Put(want, uint64((f.Kind%4+4)%4))
			want = varint.Put(want, uint64((f.Type%4+4)%4))
			want = val.Put(want, f.Def)
		}
		if got := Put("b", s); got != want {
			t.Fatalf("Put behind b of %+v: %x, want %x", s, got, want)
		}
	}
}

// tails: what may follow a schema; some look like parts of one.
var tails = []string{"", "a", "\x00", "\x01a\x03\x01\x00", "\x80", "\xff\xff\xff\xff\xff\xff\xff\xff\xff\xff\xff"}

// nine: a number that no byte has ended yet, and that only one byte may end.
var nine = strings.Repeat("\x80", 9)

func TestTake(t *testing.T) { // P11.7: what is taken
	for _, x := range []struct {
		b    string
		want api.Schema
	}{
		{"\x00", api.Schema{}},
		{"\x01\x0btodo/*/done\x01\x03\x03\x00", schema(reg("todo/*/done", truth(0)))},
		{"\x04\x01a\x03\x01\x00\x01b\x02\x02\x00\x01c\x01\x01\x01\x09\x01d\x01\x02\x02\x02ab", schema(ctr("a"), set("b", api.ValText), reg("c", number(-5)), reg("d", text("ab")))},
		{"\x01\x65" + longest + "\x01\x02\x02\xc8\x01" + strings.Repeat("y", 200), schema(reg(longest, text(strings.Repeat("y", 200))))},
		{"\x02\x01a\x02\x01\x00\x01b\x02\x03\x00", schema(set("a", api.ValInt), set("b", api.ValBool))},
	} {
		for _, tail := range tails {
			s, rest, err := Take(x.b + tail)
			if !plainSame(s, x.want) || rest != tail || err != api.OK {
				t.Errorf("Take of %x with %x behind: %+v, %x, %d, want %+v", x.b, tail, s, rest, err, x.want)
			}
		}
	}
}

// untaken takes b, which must be told by that error, with nothing beside it.
func untaken(t *testing.T, b string, want api.Errno) {
	t.Helper()
	s, rest, err := Take(b)
	if len(s.Fields) > 0 || rest != "" || err != want {
		t.Errorf("Take of %x: %+v, %x, %d, want %d", b, s, rest, err, want)
	}
}

func TestTakeTellsTheFirstError(t *testing.T) { // P11.7: one by one, whatever else is wrong behind it
	a := "\x01a\x03\x01\x00"
	for _, x := range []struct {
		begin, part string
		want        api.Errno
	}{
		{"", "", api.ErrShort},
		{"", "\x80", api.ErrShort},
		{"", "\x81\x00", api.ErrForm},
		{"", nine + "\x02", api.ErrLong},
		{"", "\x18", api.ErrShort}, // 24 fields may be there
		{"", "\x19", api.ErrLong},  // 25 may not, which is told ahead of them
		{"", "\x19\x80\x00", api.ErrLong},
		{"", "\xff\xff\xff\xff\xff\xff\xff\xff\xff\x01", api.ErrLong},
		{"\x01", "\x80", api.ErrShort},
		{"\x01", "\x81\x00", api.ErrForm},
		{"\x01", nine + "\x02", api.ErrLong},
		{"\x01", "\x03a/", api.ErrShort},
		{"\x01", "\x66", api.ErrShort}, // a path of 102 bytes may be there
		{"\x01", "\x67", api.ErrLong},  // one of 103 may not
		{"\x01", "\x67" + strings.Repeat("a", 103), api.ErrLong},
		{"\x01", nine + "\x01", api.ErrLong},
		{"\x01\x01a", "", api.ErrShort},
		{"\x01\x01a", "\x80", api.ErrShort},
		{"\x01\x01a", "\x81\x00", api.ErrForm},
		{"\x01\x01a", nine + "\x02", api.ErrLong},
		{"\x01\x01a\x03", "", api.ErrShort},
		{"\x01\x01a\x03", "\x80", api.ErrShort},
		{"\x01\x01a\x03", "\x81\x00", api.ErrForm},
		{"\x01\x01a\x03", nine + "\x02", api.ErrLong},
		{"\x01\x01a\x03\x01", "", api.ErrShort},
		{"\x01\x01a\x03\x01", "\x80", api.ErrShort},
		{"\x01\x01a\x03\x01", "\x04", api.ErrForm},
		{"\x01\x01a\x03\x01", nine + "\x02", api.ErrLong},
		{"\x01\x01a\x01\x01", "\x01", api.ErrShort},
		{"\x01\x01a\x01\x02", "\x02\xc9\x01", api.ErrLong}, // a text of 201 bytes
		{"\x01\x01a\x01\x02", "\x02\x02a", api.ErrShort},
		{"\x01\x01a\x01\x03", "\x03\x04", api.ErrForm},          // a truth of 2
		{"\x01\x01a", "\x04\x80\x00", api.ErrForm},              // behind a kind that there is not
		{"\x01\x01a", "\x04", api.ErrShort},                     // such a kind is told behind the field: its type is read, ..
		{"\x01\x01a", "\x04" + nine + "\x02", api.ErrLong},      //
		{"\x01\x01a", "\x04\x04", api.ErrShort},                 // .. and what it has
		{"\x01\x01a", "\x04\x01" + nine + "\x02", api.ErrLong},  //
		{"\x01\x01a", "\x01\x04" + "\x02\xc9\x01", api.ErrLong}, //
		{"\x01\x01a", "\x04\x01\x02\x05abcd", api.ErrShort},     //
		{"\x01\x01a", "\x04\x01\x00", api.ErrForm},
		{"\x01\x01a", "\x03\x04\x00", api.ErrForm},
		{"\x01\x01a", nine + "\x01\x01\x00", api.ErrForm}, // 2 to the power 63
		{"\x01\x01a", "\x03" + nine + "\x01\x00", api.ErrForm},
		{"\x01\x01a", "\x83\x80\x80\x80\x10\x01\x00", api.ErrForm}, // 2 to the power 32, and three
		{"\x01\x01a", "\x03\x81\x80\x80\x80\x80\x80\x80\x80\x80\x01\x00", api.ErrForm},
		{"\x02\x01a", "\x04\x01\x00", api.ErrForm}, // ahead of a field that is short
		{"\x02\x01a", "\x03\x04\x00", api.ErrForm},
		{"\x02\x01a", nine + "\x01\x01\x00", api.ErrForm}, // likewise, be the number one that no int has
		{"\x02\x01a", "\x03" + nine + "\x01\x00", api.ErrForm},
		{"\x02\x01a", nine + "\x01" + nine + "\x01\x00", api.ErrForm},
		{"\x02\x01a", "\x04\x01\x00\x67", api.ErrForm}, // and of one that is too long
		{"\x02\x01a", "\x03\xff\x01\x00" + nine + "\x02", api.ErrForm},
		{"\x02" + a, "", api.ErrShort},
		{"\x02" + a, "\x67", api.ErrLong},
		{"\x02" + a, "\x01b\x04\x01\x00", api.ErrForm},
		{"\x02" + a, "\x01b\x04\x01", api.ErrShort},
		{"\x02\x01A\x03\x01\x00", "", api.ErrShort},              // a field that is not right is told at the end
		{"\x02\x01A\x03\x01\x00", "\x67", api.ErrLong},           //
		{"\x02\x00\x00\x00\x00", nine + "\x02", api.ErrLong},     //
		{"\x02\x01a\x00\x00\x00", "\x01b\x80", api.ErrShort},     //
		{"\x02\x01a\x03\x02\x00", "\x01b\x01\x03", api.ErrShort}, //
		{"\x03" + a + a, "\x01", api.ErrShort},                   // two that are the same, likewise
		{"\x03\x01b\x03\x01\x00" + a, "\x67", api.ErrLong},       // two that do not rise
	} {
		untaken(t, x.begin+x.part, x.want)
		if x.want != api.ErrShort {
			untaken(t, x.begin+x.part+"\x67"+nine+"\x02rest", x.want)
		}
	}
}

func TestTakeOfWrongSchemas(t *testing.T) { // P11.7: what is told at the end, by ErrForm, whatever follows
	for _, s := range []api.Schema{
		schema(api.Field{}), schema(ctr("")), schema(ctr("*")), schema(ctr("A")), schema(ctr("a//b")), schema(ctr("a/b/c/d/e/f/g")), schema(ctr(longest + "a")), schema(ctr(longest + "/")),
		schema(api.Field{Path: "a", Type: 1}), schema(set("a", 0)), schema(ctr("b"), ctr("a")), schema(ctr("a"), ctr("a")), schema(ctr("a"), ctr("a/b")), schema(ctr("a"), ctr("b"), ctr("a/b")),
		schema(api.Field{Path: "a", Kind: 3, Type: 2}), schema(api.Field{Path: "a", Kind: 3, Type: 3}), schema(api.Field{Path: "a", Kind: 3, Type: 1, Def: number(0)}),
		schema(api.Field{Path: "a", Kind: 2, Type: 2, Def: text("")}), schema(api.Field{Path: "a", Kind: 1, Type: 1}), schema(api.Field{Path: "a", Kind: 1, Type: 1, Def: text("")}),
		schema(api.Field{Path: "a", Kind: 1, Type: 3, Def: number(1)}), schema(api.Field{Path: "a", Kind: 1}), schema(ctr("a/*"), ctr("a/b")),
	} {
		for _, tail := range tails {
			untaken(t, Put("", s)+tail, api.ErrForm)
		}
	}
}

// plainTake is Take by P11.7's words, one thing behind another, each by its numbers.
func plainTake(b string) (api.Schema, string, api.Errno) {
	var err api.Errno
	need := func(holds bool, e api.Errno) {
		if err == api.OK && !holds {
			err = e
		}
	}
	num := func() uint64 {
		if err != api.OK {
			return 0
		}
		var n uint64
		n, b, err = varint.Take(b)
		return n
	}
	bytes := func(most uint64) string {
		n := num()
		need(n <= most, api.ErrLong)
		need(n <= uint64(len(b)), api.ErrShort)
		if err != api.OK {
			return ""
		}
		s := b[:n]
		b = b[n:]
		return s
	}
	value := func() api.Value {
		n := num()
		need(n <= 3, api.ErrForm)
		v := api.Value{Kind: int(n)}
		switch v.Kind {
		case 1:
			v.Int = varint.Zag(num())
		case 2:
			v.Text = bytes(200)
		case 3:
			v.Int = varint.Zag(num())
			need(v.Int == 0 || v.Int == 1, api.ErrForm)
		}
		return v
	}
	many := num()
	need(many <= 24, api.ErrLong)
	var s api.Schema
	for k := uint64(0); err == api.OK && k < many; k++ {
		p, kind, of, def := bytes(6*17), num(), num(), value()
		need(kind <= 3 && of <= 3, api.ErrForm)
		s.Fields = append(s.Fields, api.Field{Path: p, Kind: int(kind), Type: int(of), Def: def})
	}
	need(plainRight(s), api.ErrForm)
	if err != api.OK {
		return api.Schema{}, "", err
	}
	return s, b, api.OK
}

// someBytes: all texts of up to two bytes, some of more, and schemas, right and wrong, whole, or cut off, or with some of their bytes changed.
func someBytes() []string {
	r := rand.New(rand.NewSource(5))
	l := []string{""}
	for a := range 256 {
		l = append(l, string([]byte{byte(a)}))
		for b := range 256 {
			l = append(l, string([]byte{byte(a), byte(b)}))
		}
	}
	for range 30000 {
		b := make([]byte, r.Intn(20))
		for k := range b {
			b[k] = byte(r.Intn(1 << (1 + r.Intn(8))))
		}
		l = append(l, string(b))
	}
	short := schema(ctr("a"), reg("b/*", number(5)), set("c", api.ValText))
	for _, s := range slices.Concat(all(), drawn(6, 8000, false), drawn(7, 4000, true), slices.Repeat([]api.Schema{short}, 100000)) {
		b := []byte(Put("", s))
		l = append(l, string(b), string(b)+"rest", string(b[:r.Intn(len(b))]))
		for range 1 + r.Intn(3) {
			b[r.Intn(len(b))] = byte(r.Intn(1 << (1 + r.Intn(8))))
		}
		l = append(l, string(b))
	}
	return l
}

func TestTakeOfAnyBytes(t *testing.T) { // P11.7, and R6: what is taken has one form
	told := map[api.Errno]int{}
	for _, b := range someBytes() {
		s, rest, err := Take(b)
		want, more, f := plainTake(b)
		if !plainSame(s, want) || rest != more || err != f {
			t.Fatalf("Take of %x: %+v, %x, %d, want %+v, %x, %d", b, s, rest, err, want, more, f)
		}
		if err == api.OK && (!Right(s) || Put("", s)+rest != b) {
			t.Fatalf("Take of %x: %+v, which is put as %x", b, s, Put("", s))
		}
		told[err]++
	}
	for _, err := range []api.Errno{api.OK, api.ErrShort, api.ErrForm, api.ErrLong} {
		if told[err] < 1000 {
			t.Errorf("%d is told %d times: too few to tell", err, told[err])
		}
	}
}

func TestPutAndTaken(t *testing.T) { // P11.10: what is right, whatever follows
	for _, s := range rights() {
		b := Put("", s)
		for _, tail := range append(tails, b) {
			got, rest, err := Take(b + tail)
			if !plainSame(got, s) || rest != tail || err != api.OK {
				t.Fatalf("Take of %+v with %x behind: %+v, %x, %d", s, tail, got, rest, err)
			}
		}
	}
}

func TestBeginningsAreNotTaken(t *testing.T) { // P11.7
	for _, s := range slices.Concat(edges(), drawn(8, 200, false)) {
		b := Put("", s)
		for n := range len(b) {
			untaken(t, b[:n], api.ErrShort)
		}
	}
}

func TestNoPathIsTwoFields(t *testing.T) { // P11.10
	patterns := few()
	var paths []string
	for _, p := range append(few(), "a/c/*", "c") {
		paths = append(paths, p, strings.ReplaceAll(p, "*", "c"), p+"/a")
	}
	right, found := 0, 0
	for k, p := range patterns {
		for j, q := range patterns[k:] {
			for _, r := range patterns[k+j:] {
				s := Of(ctr(p), ctr(q), ctr(r))
				if !Right(s) {
					continue
				}
				right++
				for _, one := range paths {
					f, there := Find(s, one)
					if !there {
						continue
					}
					found++
					for _, g := range s.Fields {
						if g != f && path.Match(one, g.Path) {
							t.Fatalf("%q is of %+v and of %+v", one, f, g)
						}
					}
				}
			}
		}
	}
	if right == 0 || found == 0 {
		t.Errorf("%d right, %d found: nothing was told", right, found)
	}
}

func TestSame(t *testing.T) { // P11.8
	if !Same(api.Schema{}, schema([]api.Field{}...)) || !Same(schema([]api.Field{}...), api.Schema{}) {
		t.Error("nil and empty lists are not the same")
	}
	var others []api.Schema
	add := func(change func(s *api.Schema)) {
		s := clone(five)
		change(&s)
		others = append(others, s)
	}
	for k := range five.Fields {
		add(func(s *api.Schema) { s.Fields = slices.Delete(s.Fields, k, k+1) })
		add(func(s *api.Schema) { s.Fields = slices.Insert(s.Fields, k, s.Fields[k]) })
		add(func(s *api.Schema) { s.Fields[k].Path += "a" })
		add(func(s *api.Schema) { s.Fields[k].Kind += 4 })
		add(func(s *api.Schema) { s.Fields[k].Type += 4 })
		add(func(s *api.Schema) { s.Fields[k].Def.Kind += 4 })
		add(func(s *api.Schema) { s.Fields[k].Def.Int++ })
		add(func(s *api.Schema) { s.Fields[k].Def.Text += "a" })
		if k > 0 {
			add(func(s *api.Schema) { s.Fields[0], s.Fields[k] = s.Fields[k], s.Fields[0] })
		}
	}
	others = append(others, api.Schema{}, schema(five.Fields[:4]...), schema(five.Fields[1:]...))
	for _, s := range others {
		if Same(s, five) || Same(five, s) || !Same(s, clone(s)) {
			t.Errorf("%+v and %+v", s, five)
		}
	}
	if !Same(five, five) || !Same(five, clone(five)) {
		t.Error("a schema is not itself")
	}
	l := slices.Concat(drawn(9, 150, true), drawn(9, 50, true), wrongs()[:100], edges())
	for _, a := range l {
		for _, b := range l {
			if got, want := Same(a, b), plainSame(a, b); got != want {
				t.Fatalf("whether %+v and %+v are the same: %t", a, b, got)
			}
		}
	}
}

func TestText(t *testing.T) { // P11.9
	for _, x := range []struct {
		s    api.Schema
		want string
	}{
		{api.Schema{}, ""},
		{schema(reg("todo/*/done", truth(0))), "todo/*/done reg bool no\n"}, // the chapter's example
		{five, "name reg text '\ntags set text\ntodo/*/done reg bool no\ntodo/*/seen ctr int\nyear reg int -5\n"},
		{schema(set("a", 1), set("b", 2), set("c", 3), reg("d", truth(1)), reg("e", text("a b"))), "a set int\nb set text\nc set bool\nd reg bool yes\ne reg text 'a b\n"},
		{schema(ctr("b"), ctr("a"), ctr("a")), "b ctr int\na ctr int\na ctr int\n"}, // what is not right is told, too
		{schema(api.Field{}), " ? ?\n"},
		{schema(api.Field{Path: "a", Kind: api.FieldReg}), "a reg ? -\n"},
		{schema(api.Field{Path: "a b", Kind: 4, Type: 4, Def: number(1)}), "a b ? ?\n"},
		{schema(api.Field{Path: "a", Kind: 5, Type: 5, Def: number(1)}), "a reg int\n"}, // a register by its lowest bits alone
		{schema(api.Field{Path: "a", Kind: -3, Type: -2, Def: number(1)}), "a reg text\n"},
		{schema(api.Field{Path: "a", Kind: 1<<32 + 1, Type: -1, Def: number(1)}), "a reg bool\n"},
		{schema(api.Field{Path: "a", Kind: 6, Type: 6, Def: number(1)}), "a set text\n"},
		{schema(api.Field{Path: "a", Kind: 7, Type: 7, Def: number(1)}), "a ctr bool\n"},
		{schema(api.Field{Path: "a", Kind: -1, Type: -4}), "a ctr ?\n"},
		{schema(api.Field{Path: "a", Kind: -2, Type: -3}), "a set int\n"},
		{schema(api.Field{Path: "a", Kind: math.MinInt, Type: math.MaxInt}), "a ? bool\n"},
		{schema(api.Field{Path: "a", Kind: math.MaxInt, Type: math.MinInt}), "a ctr ?\n"},
		{schema(api.Field{Path: "a", Kind: 2, Type: 1, Def: number(1)}), "a set int\n"}, // what it has is told of registers alone
		{schema(api.Field{Path: "a", Kind: 3, Type: 2, Def: text("b")}), "a ctr text\n"},
		{schema(api.Field{Path: "a", Kind: 1, Type: 2, Def: truth(3)}), "a reg text yes\n"},
		{schema(api.Field{Path: "a", Kind: 1, Type: 9, Def: api.Value{Kind: 9, Int: 1, Text: "b"}}), "a reg int -\n"},
	} {
		if got := Text(x.s); got != x.want {
			t.Errorf("Text of %+v: %q, want %q", x.s, got, x.want)
		}
	}
	for _, s := range all() {
		want := ""
		for _, f := range s.Fields {
			want += fmt.Sprintf("%s %s %s", f.Path, strings.Fields("? reg set ctr")[(f.Kind%4+4)%4], strings.Fields("? int text bool")[(f.Type%4+4)%4])
			if f.Kind == 1 {
				want += " " + val.Text(f.Def)
			}
			want += "\n"
		}
		if got := Text(s); got != want {
			t.Fatalf("Text of %+v: %q, want %q", s, got, want)
		}
	}
}

// spoil writes over all fields of s, and over the room behind them.
func spoil(s api.Schema) {
	for k := range s.Fields[:cap(s.Fields)] {
		s.Fields[:cap(s.Fields)][k] = api.Field{Path: "spoilt", Kind: -9}
	}
}

func TestSchemasAreNotChanged(t *testing.T) { // R3: nor the room behind their fields, and answers are new memory
	for _, s := range slices.Concat(drawn(10, 300, true), edges(), wrongs()) {
		whole := append(clone(s).Fields, ctr("room"), ctr("a"), ctr("b"))
		had := slices.Clone(whole)
		one := schema(whole[:len(s.Fields)]...)
		Right(one)
		Same(one, one)
		Put("b", one)
		Text(one)
		for _, p := range []string{"a", "e/7/a", "todo"} {
			Find(one, p)
			Under(one, p)
		}
		for _, f := range one.Fields {
			FieldRight(f)
		}
		spoil(Of(one.Fields...))
		for k := range len(one.Fields) {
			spoil(Of(one.Fields[k:]...))
			spoil(Of(one.Fields[:k]...))
		}
		if got, _, err := Take(Put("", one)); err == api.OK {
			spoil(got)
		}
		if !slices.Equal(whole, had) {
			t.Fatalf("%+v was changed: %+v", had, whole)
		}
	}
}

func TestLargeSchemas(t *testing.T) { // P11.3, P11.6, P11.9: of many fields, none of which a schema may have beside so many others
	const n = 1 << 17
	r := rand.New(rand.NewSource(11))
	l := make([]api.Field, n)
	for k := range l {
		l[k] = reg(fmt.Sprintf("a%05d", r.Intn(n/2)), number(k))
	}
	s := Of(l...)
	for k, f := range s.Fields[1:] {
		before := s.Fields[k]
		if before.Path > f.Path || before.Path == f.Path && before.Def.Int >= f.Def.Int {
			t.Fatalf("%+v stands behind %+v", f, before)
		}
	}
	if len(s.Fields) != n || Right(s) || Under(s, "b") || !Same(s, clone(s)) {
		t.Errorf("%d fields", len(s.Fields))
	}
	if f, there := Find(s, s.Fields[n-1].Path); !there || f.Path != s.Fields[n-1].Path {
		t.Errorf("the last one: %+v, %t", f, there)
	}
	if got := Text(s); strings.Count(got, "\n") != n {
		t.Errorf("%d bytes of text", len(got))
	}
	if got := Put("", s); !strings.HasPrefix(got, "\x80\x80\x08\x06a0") {
		t.Errorf("%d bytes", len(got))
	}
	untaken(t, Put("", s), api.ErrLong)
	long := strings.Repeat("a/", 1<<20)
	if FieldRight(ctr(long)) || Under(five, long) || Right(schema(ctr(long), ctr(long+"a"))) {
		t.Error("a path of many segments")
	}
	if f, there := Find(schema(ctr(long)), long); !there || f.Path != long || !Under(schema(ctr(long+"b")), long+"b") {
		t.Error("a path of many segments is not found")
	}
}

func TestTheSameIsToldAgain(t *testing.T) { // R4
	tell := func() string {
		var b strings.Builder
		l := slices.Concat(drawn(12, 100, true), wrongs())
		for k, s := range l {
			f, there := Find(s, "e/7/a")
			got, rest, err := Take(Put("", s) + "rest")
			fmt.Fprintln(&b, Right(s), f, there, Under(s, "e"), Put("b", s), Same(s, l[len(l)-1-k]), Text(s), Of(s.Fields...), got, rest, err)
		}
		return b.String()
	}
	if tell() != tell() {
		t.Error("not the same")
	}
}
