package typed

import (
	"fmt"
	"math"
	"math/rand"
	"slices"
	"strings"
	"testing"

	"lorgnette/api"
	"lorgnette/entry"
	"lorgnette/path"
	"lorgnette/schema"
)

// number, text and truth are values, shortly.
func number(n int) api.Value  { return api.Value{Kind: api.ValInt, Int: n} }
func text(s string) api.Value { return api.Value{Kind: api.ValText, Text: s} }
func truth(n int) api.Value   { return api.Value{Kind: api.ValBool, Int: n} }

// reg is a register that has v where nobody wrote.
func reg(p string, v api.Value) api.Field {
	return api.Field{Path: p, Kind: api.FieldReg, Type: v.Kind, Def: v}
}

// set is a set of values of that kind.
func set(p string, of int) api.Field {
	return api.Field{Path: p, Kind: api.FieldSet, Type: of}
}

// ctr is a counter.
func ctr(p string) api.Field {
	return api.Field{Path: p, Kind: api.FieldCtr, Type: api.ValInt}
}

// fields is a schema as it is written down.
func fields(l ...api.Field) api.Schema {
	return api.Schema{Fields: l}
}

// at is a dot, shortly.
func at(rep, seq int) api.Dot {
	return api.Dot{Rep: rep, Seq: seq}
}

// left is what the event 1.2 left, meant in the version of the beginning.
func left(p string, kind int, v api.Value) api.Entry {
	return api.Entry{Dot: at(1, 2), Path: p, Kind: kind, Val: v}
}

// wrote, added and counted are such entries of each kind.
func wrote(p string, v api.Value) api.Entry { return left(p, api.FieldReg, v) }
func added(p string, v api.Value) api.Entry { return left(p, api.FieldSet, v) }
func counted(p string, n int) api.Entry     { return left(p, api.FieldCtr, number(n)) }

// longest is the longest path: six segments of 16 bytes.
var longest = strings.Repeat("abcdefghijklmno0/", 6)[:101]

// five is a schema that is right, with fields of all kinds.
var five = fields(reg("name", text("ada")), set("tags", api.ValText), reg("todo/*/done", truth(1)), ctr("todo/*/seen"), reg("year", number(-5)))

// odd: schemas that are not right, in some of which paths are two fields'.
var odd = []api.Schema{
	fields(reg("a", number(1)), set("a", api.ValInt)),
	fields(set("a", api.ValInt), reg("a", number(1))),
	fields(ctr("a/*"), reg("a/b", text("x"))),
	fields(reg("a/b", text("x")), ctr("a/*")),
	fields(ctr("*")),
	fields(ctr("*/b")),
	fields(ctr("A"), ctr(""), ctr("/"), ctr("a//b"), ctr(longest+"a")),
	fields(api.Field{Path: "a"}, ctr("a")),
	fields(api.Field{Path: "a", Kind: 4, Type: 1}),
	fields(api.Field{Path: "a", Kind: 5, Type: 1, Def: number(7)}),
	fields(api.Field{Path: "a", Kind: 6, Type: 2}),
	fields(api.Field{Path: "a", Kind: 7, Type: 1}),
	fields(api.Field{Path: "a", Kind: -1, Type: 1}, api.Field{Path: "b", Kind: -3, Type: 1}),
	fields(api.Field{Path: "a", Kind: 1<<32 + 1, Type: 1}, api.Field{Path: "b", Kind: 1, Type: 1<<32 + 1}),
	fields(api.Field{Path: "a", Kind: math.MinInt, Type: math.MaxInt}, api.Field{Path: "b", Kind: math.MaxInt, Type: math.MinInt}),
	fields(api.Field{Path: "a", Kind: 1, Type: 5, Def: number(7)}),
	fields(api.Field{Path: "a", Kind: 1, Type: 0}),
	fields(api.Field{Path: "a", Kind: 1, Type: 2, Def: number(7)}),
	fields(api.Field{Path: "a", Kind: 1, Type: 1, Def: api.Value{Kind: 9, Int: 7, Text: "a"}}),
	fields(api.Field{Path: "a", Kind: 2, Type: 1, Def: number(7)}),
	fields(api.Field{Path: "a", Kind: 3, Type: 1, Def: number(7)}),
	fields(api.Field{Path: "a", Kind: 3, Type: 2}, api.Field{Path: "b", Kind: 3, Type: 3, Def: text("x")}),
	fields(ctr("b"), ctr("a")),
}

// somePatterns: patterns that part from one another.
var somePatterns = []string{"a", "aa", "b", "c/a", "c/b", "d/*", "e/*/a", "e/*/b", "f/*/*", "g/a/a/a/a/a", longest}

// somePaths: paths of these and of no pattern, and what is no path.
var somePaths = []string{"a", "aa", "aaa", "b", "c", "c/a", "c/b", "c/c", "d", "d/a", "d/7", "d/7/8", "e/x/a", "e/y/b", "e/y/c", "f/1/2", "f/1", "g/a/a/a/a/a", "g/a/a/a/a/b", longest, longest[:100],
	"", "/", "*", "d/*", "e/*/a", "d/A", "d/", "e//a", "f/*/*", "f/a b/c", "d/\xff", "d/ä", "d/abcdefghijklmnopq", "g/a/a/a/a/a/a", "a/"}

// someValues: values of each kind, and such as are not right.
var someValues = []api.Value{number(0), number(-5), number(math.MaxInt), text(""), text("ada"), text(strings.Repeat("x", api.MaxText)), truth(0), truth(1),
	{}, text(strings.Repeat("x", api.MaxText+1)), truth(2), {Kind: 1, Text: "a"}, {Kind: 2, Int: 1}, {Kind: 4}, {Kind: 5, Int: 1}, {Kind: -1}}

// drawnSchemas: n schemas that are right.
func drawnSchemas(seed int64, n int) []api.Schema {
	r := rand.New(rand.NewSource(seed))
	var l []api.Schema
	for range n {
		var s api.Schema
		for _, p := range somePatterns {
			if r.Intn(3) > 0 {
				s.Fields = append(s.Fields, []api.Field{reg(p, number(r.Intn(9)-4)), reg(p, text("eve")), reg(p, truth(r.Intn(2))), set(p, 1+r.Intn(3)), ctr(p)}[r.Intn(5)])
			}
		}
		l = append(l, schema.Of(s.Fields...))
	}
	return l
}

// rights: schemas that are right.
func rights() []api.Schema {
	full := api.Schema{}
	for k := range api.MaxFields {
		full.Fields = append(full.Fields, set("a/"+string(rune('a'+k)), api.ValInt+k%3))
	}
	return append(drawnSchemas(1, 200), api.Schema{}, five, full, fields(set("a/*/*/*/*/*", api.ValBool)), fields(reg(longest, text(strings.Repeat("\xff", api.MaxText)))))
}

// drawnEntries: n entries, most of which are right.
func drawnEntries(seed int64, n int) []api.Entry {
	r := rand.New(rand.NewSource(seed))
	var l []api.Entry
	for range n {
		x := left(somePaths[r.Intn(len(somePaths))], 1+r.Intn(3), someValues[r.Intn(8)])
		switch r.Intn(20) {
		case 0:
			x.Dot = []api.Dot{{}, at(-1, 1), at(64, 1), at(0, 1<<30+1), at(1, -1)}[r.Intn(5)]
		case 1:
			x.Ver = []api.Dot{at(1, 0), at(-1, 1), at(64, 1), at(0, 1<<30+1), at(1, 1), at(63, 1<<30)}[r.Intn(6)]
		case 2:
			x.Kind = []int{0, 4, 5, 6, 7, -1, math.MinInt, math.MaxInt}[r.Intn(8)]
		case 3:
			x.Val = someValues[r.Intn(len(someValues))]
		}
		l = append(l, x)
	}
	return l
}

// plainFind is the first field whose pattern p is of, or none.
func plainFind(s api.Schema, p string) []api.Field {
	for k, f := range s.Fields {
		if path.Match(p, f.Path) {
			return s.Fields[k : k+1]
		}
	}
	return nil
}

// plainFits is whether x fits s, by P12.1's words.
func plainFits(s api.Schema, x api.Entry) bool {
	found := plainFind(s, x.Path)
	return entry.Right(x) && len(found) == 1 && found[0].Kind == x.Kind && found[0].Type == x.Val.Kind
}

// plainPaths is the paths of l, by P12.3's words.
func plainPaths(l []api.Entry) []string {
	var all []string
	for _, x := range l {
		all = append(all, x.Path)
	}
	slices.Sort(all)
	return slices.Compact(all)
}

// plainDefault is the default at p, by P12.4's words.
func plainDefault(s api.Schema, p string) (api.Value, api.Errno) {
	found := plainFind(s, p)
	switch {
	case !path.Right(p) || len(found) == 0:
		return api.Value{}, api.ErrPath
	case found[0].Kind == 1:
		return found[0].Def, api.OK
	case found[0].Kind == 3:
		return api.Value{Kind: 1}, api.OK
	}
	return api.Value{}, api.OK
}

// with is x changed.
func with(x api.Entry, change func(x *api.Entry)) api.Entry {
	change(&x)
	return x
}

// fitting: entries that fit five.
var fitting = []api.Entry{
	wrote("name", text("")), wrote("name", text("eve")), wrote("name", text(strings.Repeat("\xff", api.MaxText))),
	added("tags", text("")), added("tags", text("red")),
	wrote("todo/7/done", truth(0)), wrote("todo/_/done", truth(1)), wrote("todo/abcdefghijklmno0/done", truth(1)), wrote("todo/done/done", truth(1)),
	counted("todo/7/seen", 0), counted("todo/8/seen", -5), counted("todo/8/seen", math.MinInt),
	wrote("year", number(0)), wrote("year", number(math.MaxInt)), wrote("year", number(math.MinInt)),
	{Dot: at(0, 1), Path: "year", Kind: api.FieldReg, Val: number(1), Ver: at(63, 1<<30)},
	{Dot: at(63, 1<<30), Path: "year", Kind: api.FieldReg, Val: number(1), Ver: at(0, 1)},
}

// unfitting: entries that do not fit five.
var unfitting = []api.Entry{
	{},
	wrote("name", number(5)), wrote("name", truth(1)), wrote("year", text("5")), wrote("year", truth(0)), // values of other kinds
	wrote("todo/7/done", number(1)), wrote("todo/7/done", text("yes")), added("tags", number(5)), added("tags", truth(1)),
	added("name", text("eve")), added("year", number(1)), added("todo/7/done", truth(1)), added("todo/7/seen", number(1)), // other kinds
	wrote("tags", text("red")), wrote("todo/7/seen", number(1)), counted("year", 1), counted("tags", 1), left("tags", api.FieldCtr, text("red")),
	left("todo/7/seen", api.FieldCtr, text("1")), left("todo/7/seen", api.FieldCtr, truth(1)), left("todo/7/seen", api.FieldCtr, api.Value{}),
	wrote("nam", text("eve")), wrote("names", text("eve")), wrote("a", text("eve")), wrote("name/a", text("eve")), added("tags/red", text("red")), // no field's paths
	wrote("todo", truth(1)), wrote("todo/7", truth(1)), wrote("todo/done", truth(1)), wrote("todo/7/don", truth(1)), wrote("todo/7/8/done", truth(1)), wrote("done/7/done", truth(1)), wrote("todo/7/done/x", truth(1)),
	wrote("todo/*/done", truth(1)), wrote("todo//done", truth(1)), wrote("todo/A/done", truth(1)), wrote("todo/abcdefghijklmnopq/done", truth(1)), wrote("todo/\xff/done", truth(1)), // no paths
	counted("todo/a b/seen", 1), wrote("", text("eve")), wrote("name/", text("eve")), wrote("/name", text("eve")),
	wrote("year", api.Value{}), wrote("year", api.Value{Kind: 1, Text: "a"}), wrote("todo/7/done", truth(2)), wrote("name", text(strings.Repeat("x", api.MaxText+1))), // no values
	wrote("name", api.Value{Kind: 2, Int: 1}), wrote("year", api.Value{Kind: 5, Int: 1}), wrote("year", api.Value{Kind: -3}),
	left("year", 0, number(1)), left("year", 4, number(1)), left("year", 5, number(1)), left("year", -3, number(1)), left("year", 1<<32+1, number(1)), left("year", math.MaxInt, number(1)), // no kinds
	with(fitting[0], func(x *api.Entry) { x.Dot = api.Dot{} }), with(fitting[0], func(x *api.Entry) { x.Dot = at(64, 1) }), with(fitting[0], func(x *api.Entry) { x.Dot = at(-1, 1) }), // no dots
	with(fitting[0], func(x *api.Entry) { x.Dot = at(1, 1<<30+1) }), with(fitting[0], func(x *api.Entry) { x.Dot = at(1, -1) }),
	with(fitting[0], func(x *api.Entry) { x.Ver = at(1, 0) }), with(fitting[0], func(x *api.Entry) { x.Ver = at(64, 1) }), with(fitting[0], func(x *api.Entry) { x.Ver = at(0, -1) }), // no versions
}

func TestFits(t *testing.T) { // P12.1
	for _, x := range fitting {
		if !Fits(five, x) {
			t.Errorf("%+v does not fit", x)
		}
		if Fits(api.Schema{}, x) || Fits(fields(ctr("other"), set("some/*", api.ValText)), x) {
			t.Errorf("%+v fits a schema that has no field of its path", x)
		}
	}
	for _, x := range unfitting {
		if Fits(five, x) {
			t.Errorf("%+v fits", x)
		}
	}
	if Fits(fields(reg("a", number(0))), wrote("a", text("5"))) { // the chapter's example
		t.Error("a text fits a register of numbers")
	}
	for _, s := range rights() {
		for _, f := range s.Fields {
			p := strings.ReplaceAll(f.Path, "*", "7")
			for kind := range 5 {
				for _, v := range []api.Value{number(1), text("1"), truth(1), {}} {
					if got, want := Fits(s, left(p, kind, v)), kind == f.Kind && v.Kind == f.Type; got != want {
						t.Errorf("whether a %d with %+v fits %+v: %t", kind, v, f, got)
					}
				}
			}
		}
	}
}

func TestFitsWhatIsNotRight(t *testing.T) { // P12.1: of a schema only what is found is asked, of an entry whether it is right
	for _, x := range []struct {
		s    api.Schema
		x    api.Entry
		want bool
	}{
		{fields(reg("a", number(1)), set("a", api.ValInt)), wrote("a", number(5)), true},
		{fields(reg("a", number(1)), set("a", api.ValInt)), added("a", number(5)), false}, // the first field counts
		{fields(set("a", api.ValInt), reg("a", number(1))), added("a", number(5)), true},
		{fields(ctr("a/*"), reg("a/b", text("x"))), counted("a/b", 5), true},
		{fields(ctr("a/*"), reg("a/b", text("x"))), wrote("a/b", text("x")), false},
		{fields(reg("a/b", text("x")), ctr("a/*")), counted("a/b", 5), false},
		{fields(reg("a/b", text("x")), ctr("a/*")), counted("a/c", 5), true},
		{fields(ctr("b"), ctr("a")), counted("a", 5), true},
		{fields(ctr("*")), counted("a", 5), true},
		{fields(ctr("*")), counted("*", 5), false},
		{fields(ctr("A")), counted("A", 5), false},
		{fields(ctr("")), counted("", 5), false},
		{fields(ctr("a"), ctr("a"), ctr("a")), counted("a", 5), true},
		{fields(api.Field{Path: "a", Kind: 1, Type: 1, Def: text("x")}), wrote("a", number(5)), true}, // its Def is not asked
		{fields(api.Field{Path: "a", Kind: 2, Type: 1, Def: text("x")}), added("a", number(5)), true},
		{fields(api.Field{Path: "a", Kind: 3, Type: 1, Def: text("x")}), counted("a", 5), true},
		{fields(api.Field{Path: "a", Kind: 1, Type: 2, Def: number(5)}), wrote("a", number(5)), false}, // its Type is
		{fields(api.Field{Path: "a", Kind: 3, Type: 2}), counted("a", 5), false},
		{fields(api.Field{Path: "a", Kind: 3, Type: 2}), left("a", 3, text("x")), false},
		{fields(api.Field{Path: "a", Kind: 0, Type: 1}), left("a", 0, number(5)), false},
		{fields(api.Field{Path: "a", Kind: 5, Type: 1}), left("a", 5, number(5)), false},
		{fields(api.Field{Path: "a", Kind: 5, Type: 1}), wrote("a", number(5)), false}, // no low bits alone
		{fields(api.Field{Path: "a", Kind: 1, Type: 5}), wrote("a", number(5)), false},
		{fields(api.Field{Path: "a", Kind: 1, Type: 1<<32 + 1}), wrote("a", number(5)), false},
		{fields(api.Field{Path: "a", Kind: -3, Type: 1}), wrote("a", number(5)), false},
		{fields(api.Field{Path: "a", Kind: 1, Type: 0}), wrote("a", api.Value{}), false},
		{fields(api.Field{}), api.Entry{}, false},
	} {
		if got := Fits(x.s, x.x); got != x.want {
			t.Errorf("whether %+v fits %+v: %t", x.x, x.s, got)
		}
	}
}

func TestFitsOfAny(t *testing.T) { // P12.1: schemas and entries of every sort, held against its words
	many, others := 0, 0
	l := slices.Concat(drawnEntries(2, 3000), fitting, unfitting)
	for _, s := range slices.Concat(rights(), odd) {
		for _, x := range l {
			want := plainFits(s, x)
			if got := Fits(s, x); got != want {
				t.Fatalf("whether %+v fits %+v: %t", x, s, got)
			}
			if want {
				many++
			} else {
				others++
			}
		}
	}
	if many < 1000 || others < 1000 {
		t.Errorf("%d of these fit, and %d do not: too few to tell", many, others)
	}
}

func TestAll(t *testing.T) { // P12.2
	for _, s := range append(rights(), odd...) {
		if !All(s, nil) || !All(s, []api.Entry{}) {
			t.Errorf("none do not fit %+v", s)
		}
	}
	if !All(five, fitting) || !All(five, append(slices.Clone(fitting), fitting...)) {
		t.Error("what fits, together, does not")
	}
	for k := range fitting {
		if !All(five, fitting[k:]) || !All(five, fitting[:k]) || !All(five, fitting[k:k+1]) {
			t.Errorf("some of what fits does not, from or up to %d", k)
		}
	}
	for _, x := range unfitting {
		for k := range len(fitting) + 1 { // one alone, at any place
			if All(five, slices.Insert(slices.Clone(fitting), k, x)) {
				t.Errorf("all fit, with %+v at %d", x, k)
			}
		}
		if All(five, []api.Entry{x}) || All(five, []api.Entry{x, x}) {
			t.Errorf("%+v fits", x)
		}
	}
	if All(api.Schema{}, fitting[:1]) || All(five, unfitting) {
		t.Error("what does not fit does, together")
	}
}

func TestAllOfAny(t *testing.T) { // P12.2: held against its words
	r := rand.New(rand.NewSource(3))
	l := drawnEntries(4, 500)
	many, others := 0, 0
	for _, s := range append(rights(), odd...) {
		fit := slices.DeleteFunc(slices.Clone(l), func(x api.Entry) bool { return !plainFits(s, x) })
		for range 20 {
			some := slices.Clone(fit[:r.Intn(len(fit)+1)])
			if r.Intn(2) == 0 {
				some = slices.Insert(some, r.Intn(len(some)+1), l[r.Intn(len(l))])
			}
			want := !slices.ContainsFunc(some, func(x api.Entry) bool { return !plainFits(s, x) })
			if got := All(s, some); got != want {
				t.Fatalf("whether all of %+v fit %+v: %t", some, s, got)
			}
			if want {
				many++
			} else {
				others++
			}
		}
	}
	if many < 500 || others < 500 {
		t.Errorf("%d times all fit, and %d times they do not: too few to tell", many, others)
	}
}

// atPaths is an entry at each of these paths, none of which need be right.
func atPaths(l ...string) []api.Entry {
	var all []api.Entry
	for k, p := range l {
		all = append(all, api.Entry{Dot: at(k%64, k), Path: p, Kind: k})
	}
	return all
}

func TestPaths(t *testing.T) { // P12.3
	for _, x := range []struct{ l, want []string }{
		{nil, nil},
		{[]string{}, nil},
		{[]string{"a"}, []string{"a"}},
		{[]string{"a", "a"}, []string{"a"}},
		{[]string{"a", "b", "c"}, []string{"a", "b", "c"}},
		{[]string{"c", "b", "a"}, []string{"a", "b", "c"}},
		{[]string{"b", "a", "c", "a", "b", "b", "a", "a"}, []string{"a", "b", "c"}},
		{[]string{"todo/7/done", "name", "todo/10/done", "todo/7/done"}, []string{"name", "todo/10/done", "todo/7/done"}},
		{[]string{"a0", "a/b", "aa", "a_", "a"}, []string{"a", "a/b", "a0", "a_", "aa"}}, // byte by byte, not segment by segment
		{[]string{""}, []string{""}}, // what is no path is told, too
		{[]string{"\xff", "a", "", "A", "*", "/", "ä", "", "\xff"}, []string{"", "*", "/", "A", "a", "ä", "\xff"}},
		{[]string{longest, longest[:100], longest + "/a", longest}, []string{longest[:100], longest, longest + "/a"}},
	} {
		if got := Paths(atPaths(x.l...)); !slices.Equal(got, x.want) {
			t.Errorf("Paths of %q: %q, want %q", x.l, got, x.want)
		}
	}
	if got := Paths(fitting); !slices.Equal(got, []string{"name", "tags", "todo/7/done", "todo/7/seen", "todo/8/seen", "todo/_/done", "todo/abcdefghijklmno0/done", "todo/done/done", "year"}) {
		t.Errorf("Paths: %q", got)
	}
	r := rand.New(rand.NewSource(5))
	l := drawnEntries(6, 4000)
	for range 2000 {
		some := l[r.Intn(len(l)):]
		some = some[:r.Intn(min(len(some), 50)+1)]
		got := Paths(some)
		if want := plainPaths(some); !slices.Equal(got, want) {
			t.Fatalf("Paths of %+v: %q, want %q", some, got, want)
		}
	}
	if got, want := Paths(l), plainPaths(l); !slices.Equal(got, want) || len(got) != len(somePaths) {
		t.Errorf("Paths: %q, want %q", got, want)
	}
}

func TestDefault(t *testing.T) { // P12.4
	for _, x := range []struct {
		s    api.Schema
		p    string
		want api.Value
		err  api.Errno
	}{
		{five, "name", text("ada"), api.OK},
		{five, "year", number(-5), api.OK},
		{five, "todo/7/done", truth(1), api.OK},
		{five, "todo/_/done", truth(1), api.OK},
		{five, "todo/7/seen", number(0), api.OK},
		{five, "tags", api.Value{}, api.OK},
		{fields(reg("a", text(""))), "a", text(""), api.OK},
		{fields(reg("a", truth(0))), "a", truth(0), api.OK},
		{fields(reg("a", number(0))), "a", number(0), api.OK},
		{fields(set("a", api.ValInt)), "a", api.Value{}, api.OK},
		{fields(set("a", api.ValBool)), "a", api.Value{}, api.OK},
		{fields(ctr("a/*/*/*/*/*")), "a/b/c/d/e/f", number(0), api.OK},
		{fields(reg(longest, number(5))), longest, number(5), api.OK},
		{api.Schema{}, "a", api.Value{}, api.ErrPath},
		{fields(ctr("*")), "a", number(0), api.OK}, // a schema that is not right: what is found counts
		{fields(reg("a", number(1)), ctr("a")), "a", number(1), api.OK},
		{fields(set("a", api.ValInt), reg("a", number(1))), "a", api.Value{}, api.OK},
		{fields(ctr("a/*"), reg("a/b", text("x"))), "a/b", number(0), api.OK},
		{fields(reg("a/b", text("x")), ctr("a/*")), "a/b", text("x"), api.OK},
		{fields(api.Field{Path: "a", Kind: 1}), "a", api.Value{}, api.OK},
		{fields(api.Field{Path: "a", Kind: 1, Type: 2, Def: api.Value{Kind: 9, Int: 7, Text: "x"}}), "a", api.Value{Kind: 9, Int: 7, Text: "x"}, api.OK}, // a register's Def, whatever it is
		{fields(api.Field{Path: "a", Kind: 2, Type: 1, Def: number(7)}), "a", api.Value{}, api.OK},
		{fields(api.Field{Path: "a", Kind: 3, Type: 2, Def: text("x")}), "a", number(0), api.OK}, // a counter's 0, whatever it has
		{fields(api.Field{Path: "a", Kind: 0, Type: 1, Def: number(7)}), "a", api.Value{}, api.OK},
		{fields(api.Field{Path: "a", Kind: 4, Type: 1, Def: number(7)}), "a", api.Value{}, api.OK},
		{fields(api.Field{Path: "a", Kind: 5, Type: 1, Def: number(7)}), "a", api.Value{}, api.OK}, // no low bits alone
		{fields(api.Field{Path: "a", Kind: 7, Type: 1, Def: number(7)}), "a", api.Value{}, api.OK},
		{fields(api.Field{Path: "a", Kind: -1, Type: 1, Def: number(7)}), "a", api.Value{}, api.OK},
		{fields(api.Field{Path: "a", Kind: 1<<32 + 1, Type: 1, Def: number(7)}), "a", api.Value{}, api.OK},
		{fields(api.Field{Path: "a", Kind: math.MinInt, Def: number(7)}), "a", api.Value{}, api.OK},
		{fields(reg("*", number(1)), reg("", number(2)), reg("A", number(3))), "*", api.Value{}, api.ErrPath}, // found, and yet no path
		{fields(reg("*", number(1))), "", api.Value{}, api.ErrPath},
		{fields(reg("A", number(3))), "A", api.Value{}, api.ErrPath},
		{fields(reg(longest+"a", number(3))), longest + "a", api.Value{}, api.ErrPath},
		{fields(reg("a/b/c/d/e/f/g", number(3))), "a/b/c/d/e/f/g", api.Value{}, api.ErrPath},
	} {
		if got, err := Default(x.s, x.p); got != x.want || err != x.err {
			t.Errorf("Default of %q in %+v: %+v, %d, want %+v, %d", x.p, x.s, got, err, x.want, x.err)
		}
	}
	for _, p := range []string{
		"nam", "names", "a", "name/a", "todo", "todo/7", "todo/done", "todo/7/don", "todo/7/8/done", "todo/7/done/x", "done/7/done", // no field's
		"", "/", "*", "/name", "name/", "todo/*/done", "todo//done", "todo/A/done", "todo/7/DONE", "todo/\xff/done", "todo/a b/done", "todo/abcdefghijklmnopq/done", "name\n", "todo/**/seen", // no paths
	} {
		if got, err := Default(five, p); got != (api.Value{}) || err != api.ErrPath {
			t.Errorf("Default of %q: %+v, %d", p, got, err)
		}
	}
}

func TestDefaultOfAny(t *testing.T) { // P12.4: schemas and paths of every sort, held against its words
	many := map[api.Errno]int{}
	for _, s := range slices.Concat(rights(), odd) {
		for _, p := range somePaths {
			want, wantErr := plainDefault(s, p)
			if got, err := Default(s, p); got != want || err != wantErr {
				t.Fatalf("Default of %q in %+v: %+v, %d, want %+v, %d", p, s, got, err, want, wantErr)
			}
			many[wantErr]++
		}
	}
	if len(many) != 2 || many[api.OK] < 500 || many[api.ErrPath] < 500 {
		t.Errorf("too few of these have one, or have none: %v", many)
	}
}

// writable: what could be left at p: of all kinds, with values of all kinds, those that fit s.
func writable(s api.Schema, p string) []api.Entry {
	var l []api.Entry
	for _, kind := range []int{api.FieldReg, api.FieldSet, api.FieldCtr} {
		for _, v := range []api.Value{number(0), text(""), truth(0)} {
			if x := left(p, kind, v); Fits(s, x) {
				l = append(l, x)
			}
		}
	}
	return l
}

func TestWhatHasADefaultCanBeWrittenTo(t *testing.T) { // P12.5
	many := 0
	for _, s := range rights() {
		if !schema.Right(s) {
			t.Fatalf("%+v is not right", s)
		}
		for _, p := range append(slices.Clone(somePaths), "name", "tags", "todo/7/done", "todo/7/seen", "year", "a/b/c/d/e/f", "a/k") {
			v, err := Default(s, p)
			l := writable(s, p)
			if err != api.OK {
				if len(l) > 0 {
					t.Errorf("%q has no default in %+v, and yet these fit: %+v", p, s, l)
				}
				continue
			}
			many++
			if len(l) != 1 || !All(s, l) || !slices.Equal(Paths(l), []string{p}) {
				t.Fatalf("%q has a default in %+v, and these fit: %+v", p, s, l)
			}
			f, _ := schema.Find(s, p)
			if v == (api.Value{}) { // a set has none
				v = l[0].Val
			}
			if !Fits(s, left(p, f.Kind, v)) || v.Kind != l[0].Val.Kind {
				t.Errorf("the default of %q does not fit %+v: %+v", p, s, v)
			}
		}
	}
	if many < 500 {
		t.Errorf("%d paths have a default: too few to tell", many)
	}
}

func TestArgumentsAreNotChanged(t *testing.T) { // R3: nor the room behind their ends, and answers are new memory
	for k, s := range slices.Concat(rights(), odd) {
		ofFields := append(slices.Clone(s.Fields), ctr("room"), ctr("a"), ctr("b"))
		ofEntries := append(drawnEntries(int64(100+k), 40), counted("room", 1), counted("a", 1), counted("b", 1))
		hadFields, hadEntries := slices.Clone(ofFields), slices.Clone(ofEntries)
		one, l := fields(ofFields[:len(s.Fields)]...), ofEntries[:40]
		All(one, l)
		for _, x := range l {
			Fits(one, x)
			Default(one, x.Path)
		}
		got := Paths(l)
		again := Paths(l)
		had := slices.Clone(got)
		for k := range got[:cap(got)] {
			got[:cap(got)][k] = "spoilt"
		}
		if !slices.Equal(again, had) || !slices.Equal(Paths(l), had) {
			t.Errorf("what is answered is kept: %q", again)
		}
		if !slices.Equal(ofFields, hadFields) || !slices.Equal(ofEntries, hadEntries) {
			t.Fatalf("%+v and %+v were changed: %+v, %+v", hadFields, hadEntries, ofFields, ofEntries)
		}
	}
}

func TestMany(t *testing.T) { // P12.1 to P12.4: of many entries, many fields, long paths
	const n = 1 << 17
	r := rand.New(rand.NewSource(7))
	l := make([]api.Entry, n)
	for k := range l {
		l[k] = counted(fmt.Sprintf("todo/k%05d/seen", r.Intn(n/2)), k)
	}
	got := Paths(l)
	if !slices.Equal(got, plainPaths(l)) || len(got) < n/4 || len(got) > n/2 {
		t.Errorf("%d paths", len(got))
	}
	if !All(five, l) {
		t.Error("not all fit")
	}
	l[n-1].Kind = api.FieldSet
	if All(five, l) {
		t.Error("all fit")
	}
	var many api.Schema
	for k := range n {
		many.Fields = append(many.Fields, reg(fmt.Sprintf("a%05d", k), number(k)))
	}
	last := many.Fields[n-1]
	if v, err := Default(many, last.Path); v != last.Def || err != api.OK || !Fits(many, wrote(last.Path, number(1))) {
		t.Errorf("the last of many fields: %+v, %d", v, err)
	}
	long := strings.Repeat("a/", 1<<20)
	if v, err := Default(fields(ctr(long)), long); v != (api.Value{}) || err != api.ErrPath || Fits(fields(ctr(long)), counted(long, 1)) {
		t.Errorf("a path of many segments: %+v, %d", v, err)
	}
	if got := Paths(atPaths(long, "a", long)); !slices.Equal(got, []string{"a", long}) {
		t.Errorf("%d paths, one of many segments", len(got))
	}
}

func TestTheSameIsToldAgain(t *testing.T) { // R4: whatever the order in which entries come, too
	tell := func(change func(l []api.Entry)) string {
		var b strings.Builder
		for k, s := range slices.Concat(rights()[:50], odd) {
			l := drawnEntries(int64(200+k), 60)
			change(l)
			fmt.Fprintln(&b, All(s, l), Paths(l))
			slices.SortFunc(l, func(a, b api.Entry) int { return strings.Compare(fmt.Sprint(a), fmt.Sprint(b)) })
			for _, x := range l {
				v, err := Default(s, x.Path)
				fmt.Fprintln(&b, Fits(s, x), v, err)
			}
		}
		return b.String()
	}
	want := tell(func([]api.Entry) {})
	for seed := range int64(5) {
		r := rand.New(rand.NewSource(seed))
		if tell(func(l []api.Entry) { r.Shuffle(len(l), func(j, k int) { l[j], l[k] = l[k], l[j] }) }) != want {
			t.Error("not the same")
		}
	}
}
