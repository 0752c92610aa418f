package step

import (
	"fmt"
	"math"
	"math/rand"
	"reflect"
	"slices"
	"strings"
	"testing"

	"lorgnette/api"
	"lorgnette/path"
	"lorgnette/schema"
	"lorgnette/table"
	"lorgnette/val"
	"lorgnette/varint"
)

// number, text and truth are values, shortly.
func number(n int) api.Value  { return api.Value{Kind: api.ValInt, Int: n} }
func text(s string) api.Value { return api.Value{Kind: api.ValText, Text: s} }
func truth(n int) api.Value   { return api.Value{Kind: api.ValBool, Int: n} }

// none is no value; no and yes are both truths.
var none, no, yes = api.Value{}, truth(0), truth(1)

// reg is a register that has v where nobody wrote.
func reg(p string, v api.Value) api.Field {
	return api.Field{Path: p, Kind: api.FieldReg, Type: v.Kind, Def: v}
}

// set is a set of values of that kind.
func set(p string, of int) api.Field {
	return api.Field{Path: p, Kind: api.FieldSet, Type: of}
}

// ctr is a counter.
func ctr(p string) api.Field {
	return api.Field{Path: p, Kind: api.FieldCtr, Type: api.ValInt}
}

// one is a register of numbers.
func one(p string) api.Field {
	return reg(p, number(1))
}

// fields is a schema as it is written down.
func fields(l ...api.Field) api.Schema {
	return api.Schema{Fields: l}
}

// ones is a schema of registers of numbers at these patterns, as they are written down.
func ones(l ...string) api.Schema {
	var s api.Schema
	for _, p := range l {
		s.Fields = append(s.Fields, one(p))
	}
	return s
}

// Steps, shortly.
func rename(p, name string) api.Step {
	return api.Step{Kind: api.StepRename, Path: p, Name: name}
}
func hoist(p string) api.Step {
	return api.Step{Kind: api.StepHoist, Path: p}
}
func plunge(p, name string) api.Step {
	return api.Step{Kind: api.StepPlunge, Path: p, Name: name}
}
func add(f api.Field) api.Step {
	return api.Step{Kind: api.StepAdd, Field: f}
}
func remove(f api.Field) api.Step {
	return api.Step{Kind: api.StepRemove, Field: f}
}
func wrap(p string) api.Step {
	return api.Step{Kind: api.StepWrap, Path: p}
}
func head(p string) api.Step {
	return api.Step{Kind: api.StepHead, Path: p}
}
func toSet(p string, def api.Value) api.Step {
	return api.Step{Kind: api.StepToSet, Path: p, Def: def}
}
func toReg(p string, def api.Value) api.Step {
	return api.Step{Kind: api.StepToReg, Path: p, Def: def}
}
func converting(p string, from, to int, t api.Table) api.Step {
	return api.Step{Kind: api.StepConvert, Path: p, From: from, To: to, Table: t}
}

// over is t turned, without the package's help.
func over(t api.Table) api.Table {
	t.Turned = !t.Turned
	return t
}

// with is x changed.
func with(x api.Step, change func(x *api.Step)) api.Step {
	change(&x)
	return x
}

// pairs is the pairs of these values, two by two.
func pairs(l ...api.Value) []api.Pair {
	var all []api.Pair
	for k := 0; k < len(l); k += 2 {
		all = append(all, api.Pair{From: l[k], To: l[k+1]})
	}
	return all
}

var (
	swap   = api.Table{Pairs: pairs(number(1), number(2), number(2), number(1)), Keep: true}                             // 1 and 2 exchanged, the others stay
	isFive = api.Table{Pairs: pairs(number(5), yes), Def: no, Back: number(6)}                                           // 5 is yes, all others are no
	marked = api.Table{Pairs: pairs(yes, text("on")), Def: text("off"), Back: no}                                        // truths as texts
	wrongT = api.Table{Pairs: pairs(number(1), yes, number(2), yes, number(5), no), Def: no, Back: number(6)}            // it is not right: 6 comes back as 5
	every  = []int{math.MinInt, -11, -10, -3, -1, 0, 1, 2, 3, 4, 5, 6, 7, 8, 9, 10, 11, 12, 15, 16, 17, 26, math.MaxInt} // kinds of steps, and others
)

// longest is the longest path: six segments of 16 bytes.
var longest = strings.Repeat("abcdefghijklmno0/", 6)[:101]

// patterns is all texts of at most that many segments, each of these.
func patterns(most int, segs ...string) []string {
	all := slices.Clone(segs)
	for from := 0; most > 1; most-- {
		upTo := len(all)
		for _, p := range all[from:upTo] {
			for _, s := range segs {
				all = append(all, p+"/"+s)
			}
		}
		from = upTo
	}
	return all
}

func TestPrefix(t *testing.T) { // P14.1
	for _, c := range []struct {
		pattern, top string
		want         bool
	}{
		{"a", "a", true},
		{"a/b", "a", true},
		{"a/b", "a/b", true},
		{"a/b/c", "a/b", true},
		{"a/b/c/d/e/f", "a", true},
		{"a/*/c", "a/*", true}, // as they are written
		{"a/b/c", "a/*", false},
		{"a/*/c", "a/b", false},
		{"a/*", "a", true},
		{"a/*", "a/*", true},
		{"a/b", "*", false},
		{"*/b", "*", true}, // what is no pattern has segments, too
		{"a", "b", false},
		{"a", "a/b", false},
		{"a/b", "a/b/c", false},
		{"ab", "a", false}, // not segments, if they are the first bytes
		{"a/bc", "a/b", false},
		{"a/*b", "a/*", false},
		{"b/a", "a", false},
		{"", "", true},
		{"/", "", true},
		{"/a", "", true},
		{"a", "", false},
		{"a/", "", false},
		{"", "/", false},
		{"", "a", false},
		{"a/", "a", true},
		{"a/", "a/", true},
		{"a//b", "a/", true},
		{"a/b", "a/", false},
		{"a", "a/", false},
		{"//", "/", true},
		{"A b/\xff/c", "A b/\xff", true},
		{"A b/\xff\xff", "A b/\xff", false},
	} {
		if got := Prefix(c.pattern, c.top); got != c.want {
			t.Errorf("Prefix(%q, %q): %t", c.pattern, c.top, got)
		}
	}
}

// plainPrefix tells P14.1 by its words.
func plainPrefix(pattern, top string) bool {
	l, m := strings.Split(pattern, "/"), strings.Split(top, "/")
	return len(l) >= len(m) && slices.Equal(l[:len(m)], m)
}

func TestPrefixOfAny(t *testing.T) { // P14.1: any two of at most three segments, some of which begin alike
	l := patterns(3, "a", "*", "", "aa")
	for _, pattern := range l {
		for _, top := range l {
			if got := Prefix(pattern, top); got != plainPrefix(pattern, top) {
				t.Fatalf("Prefix(%q, %q): %t", pattern, top, got)
			}
		}
	}
}

func TestMove(t *testing.T) { // P14.2
	for _, c := range []struct {
		x             api.Step
		pattern, want string
	}{
		{rename("a", "b"), "a", "b"},
		{rename("a", "b"), "a/c", "b/c"},
		{rename("a", "b"), "a/a", "b/a"}, // the segment n alone
		{rename("a/c", "b"), "a/c", "a/b"},
		{rename("a/c", "b"), "a/c/c/*", "a/b/c/*"},
		{rename("a/*/c", "b"), "a/*/c/d", "a/*/b/d"},
		{rename("a/*", "b"), "a/*/d", "a/b/d"},
		{rename("a/*", "b"), "a/c/d", "a/c/d"}, // no Prefix, though paths of it begin so
		{rename("a/c", "b"), "a/*", "a/*"},
		{rename("a/c", "b"), "a", "a"},
		{rename("a/c", "b"), "a/cc", "a/cc"},
		{rename("a/c", "b"), "c/c", "c/c"},
		{rename("a", ""), "a/c", "/c"}, // a Name is taken as it is
		{rename("a", "x/y"), "a/c", "x/y/c"},
		{rename("a", "*"), "a", "*"},
		{rename("", "b"), "", "b"},
		{rename("", "b"), "/c", "b/c"},
		{rename("", "b"), "a", "a"},
		{hoist("a/x"), "a/x", "x"}, // the chapter's example
		{hoist("a/x"), "a/x/y", "x/y"},
		{hoist("a/b/x"), "a/b/x/*", "a/x/*"},
		{hoist("a/b/*"), "a/b/*", "a/*"},
		{hoist("a/*/x"), "a/*/x", "a/x"},
		{hoist("a/a"), "a/a/a", "a/a"},
		{hoist("a/x"), "a", "a"},
		{hoist("a/x"), "a/y", "a/y"},
		{hoist("a"), "a", "a"}, // fewer than two segments: as it was
		{hoist("a"), "a/x", "a/x"},
		{hoist(""), "/x", "/x"},
		{with(hoist("a/x"), func(x *api.Step) { x.Name = "b" }), "a/x", "x"},
		{plunge("x", "a"), "x", "a/x"},
		{plunge("x", "a"), "x/y", "a/x/y"},
		{plunge("x/y", "a"), "x/y", "x/a/y"},
		{plunge("x/y", "a"), "x/y/z/*", "x/a/y/z/*"},
		{plunge("x/*", "a"), "x/*/z", "x/a/*/z"},
		{plunge("x/x", "x"), "x/x/x", "x/x/x/x"},
		{plunge("x/y", "a"), "x", "x"},
		{plunge("x/y", "a"), "x/z", "x/z"},
		{plunge("x", ""), "x/y", "/x/y"},
		{plunge("x", "a/b"), "x/y", "a/b/x/y"},
		{plunge("", "a"), "/y", "a//y"},
		{plunge("a/b/c/d/e/f", "x"), "a/b/c/d/e/f", "a/b/c/d/e/x/f"}, // longer than a pattern may be
		{wrap("a"), "a", "a/*"},
		{wrap("a/b"), "a/b", "a/b/*"},
		{wrap("a"), "a/b/c", "a/b/c/*"}, // behind all
		{wrap("a/b"), "a/c", "a/c"},
		{wrap("a/b"), "a", "a"},
		{wrap("a/*"), "a/*", "a/*/*"},
		{wrap(""), "", "/*"},
		{with(wrap("a"), func(x *api.Step) { x.Name = "b" }), "a", "a/*"},
		{head("a"), "a/*", "a"},
		{head("a"), "a/b/c", "a/c"}, // whatever the segment is
		{head("a/b"), "a/b/*", "a/b"},
		{head("a/b"), "a/b/*/*", "a/b/*"},
		{head("a/*"), "a/*/*", "a/*"},
		{head("a"), "a", "a"}, // there is none behind n
		{head("a/b"), "a/*", "a/*"},
		{head("a/b"), "a", "a"},
		{head(""), "/*", ""},
		{api.Step{Kind: api.StepAdd, Path: "a", Name: "b", Field: one("a/b")}, "a/b", "a/b"},
		{api.Step{Kind: api.StepRemove, Path: "a", Name: "b", Field: one("a/b")}, "a/b", "a/b"},
		{api.Step{Kind: api.StepToSet, Path: "a", Name: "b"}, "a", "a"},
		{api.Step{Kind: api.StepToReg, Path: "a", Name: "b"}, "a", "a"},
		{api.Step{Kind: api.StepConvert, Path: "a", Name: "b"}, "a", "a"},
		{api.Step{Path: "a", Name: "b"}, "a/b", "a/b"},
		{api.Step{Kind: 11, Path: "a", Name: "b"}, "a/b", "a/b"},
		{api.Step{Kind: -1, Path: "a", Name: "b"}, "a/b", "a/b"},
		{api.Step{Kind: 17, Path: "a", Name: "b"}, "a/b", "a/b"},
	} {
		if got := Move(c.x, c.pattern); got != c.want {
			t.Errorf("Move(%+v, %q): %q, want %q", c.x, c.pattern, got, c.want)
		}
	}
}

// plainSwap is the segments l with others in the place of that one, from 1 on; l, if there is none.
func plainSwap(l []string, at int, others ...string) []string {
	if at < 1 || at > len(l) {
		return l
	}
	return slices.Concat(l[:at-1], others, l[at:])
}

// plainMove tells P14.2 by its words.
func plainMove(x api.Step, pattern string) string {
	if !plainPrefix(pattern, x.Path) {
		return pattern
	}
	l, n := strings.Split(pattern, "/"), strings.Count(x.Path, "/")+1
	switch x.Kind {
	case 1:
		l = plainSwap(l, n, x.Name)
	case 2:
		l = plainSwap(l, n-1)
	case 3:
		l = plainSwap(l, n, x.Name, l[n-1])
	case 6:
		l = append(l, "*")
	case 7:
		l = plainSwap(l, n+1)
	}
	return strings.Join(l, "/")
}

func TestMoveOfAny(t *testing.T) { // P14.2: held against its words
	l := append(patterns(3, "a", "*", ""), "a/a/b/a", "a/*/a/b/*/a/a")
	for _, kind := range every {
		for _, p := range l {
			for _, name := range []string{"a", "*", "", "x/y"} {
				x := api.Step{Kind: kind, Path: p, Name: name}
				for _, pattern := range l {
					if got, want := Move(x, pattern), plainMove(x, pattern); got != want {
						t.Fatalf("Move(%+v, %q): %q, want %q", x, pattern, got, want)
					}
				}
			}
		}
	}
}

// change is a step, the schema ahead of it, and the one behind it.
type change struct {
	s    api.Schema
	x    api.Step
	want api.Schema
}

// fitting: steps that fit.
func fitting() []change {
	long := text(strings.Repeat("\xff", api.MaxText))
	most := longest[:84] // of five segments
	full := many("a", api.MaxFields)
	return []change{
		{ones("a/x"), hoist("a/x"), ones("x")}, // the chapter's example
		{ones("a"), rename("a", "b"), ones("b")},
		{ones("a", "c"), rename("a", "d"), ones("c", "d")}, // at its place
		{ones("b/a", "b/c/d"), rename("b", "a"), ones("a/a", "a/c/d")},
		{ones("a/*/c", "a/*/d", "b"), rename("a/*/c", "e"), ones("a/*/d", "a/*/e", "b")},
		{ones("a/*/c/d", "a/*/c/e", "b"), rename("a/*/c", "x"), ones("a/*/x/d", "a/*/x/e", "b")},
		{ones("a/*/c"), rename("a", "b"), ones("b/*/c")},
		{ones("a/b/c", "a/bb"), rename("a/b", "bbb"), ones("a/bb", "a/bbb/c")},
		{ones("a"), rename("a", "abcdefghijklmno0"), ones("abcdefghijklmno0")},
		{ones(longest), rename(longest, "a"), ones(longest[:85] + "a")},
		{fields(ctr("a"), set("b", 2)), rename("a", "c"), fields(set("b", 2), ctr("c"))}, // fields of all kinds move
		{ones("a/x", "b/y"), hoist("b/y"), ones("a/x", "y")},
		{ones("a/x", "a/y"), hoist("a/y"), ones("a/x", "y")},
		{ones("a/x", "a/y"), hoist("a/x"), ones("a/y", "x")},
		{ones("a/b/x/y", "a/b/x/z", "a/b/y"), hoist("a/b/x"), ones("a/b/y", "a/x/y", "a/x/z")},
		{ones("a/b/*"), hoist("a/b/*"), ones("a/*")},
		{ones("a/*/b/c"), hoist("a/*/b/c"), ones("a/*/c")},
		{ones("a/a"), hoist("a/a"), ones("a")},
		{ones("a/a/b", "a/a/c"), hoist("a/a"), ones("a/b", "a/c")}, // what it is led to is a Prefix of fields that move
		{ones("x"), plunge("x", "a"), ones("a/x")},
		{ones("a/y", "x/y", "x/z"), plunge("x", "a"), ones("a/x/y", "a/x/z", "a/y")},
		{ones("x/y", "x/z"), plunge("x/z", "a"), ones("x/a/z", "x/y")},
		{ones("a"), plunge("a", "a"), ones("a/a")},
		{ones("a/a", "a/b"), plunge("a", "a"), ones("a/a/a", "a/a/b")}, // likewise
		{ones("a/*"), plunge("a/*", "b"), ones("a/b/*")},
		{ones("a/*/c", "a/*/d"), plunge("a/*/c", "b"), ones("a/*/b/c", "a/*/d")},
		{ones(most), plunge(most, "b"), ones(most[:68] + "b" + most[67:])},
		{fields(), add(one("a")), ones("a")},
		{ones("a", "c"), add(ctr("b")), fields(one("a"), ctr("b"), one("c"))},
		{ones("a/*/b"), add(set("a/*/c", 3)), fields(one("a/*/b"), set("a/*/c", 3))},
		{fields(full.Fields[1:]...), add(full.Fields[0]), full},
		{full, remove(full.Fields[5]), fields(append(slices.Clone(full.Fields[:5]), full.Fields[6:]...)...)},
		{ones("a"), remove(one("a")), fields()},
		{fields(one("a"), ctr("b"), set("c", 2)), remove(ctr("b")), fields(one("a"), set("c", 2))},
		{fields(one("a"), ctr("b"), set("c", 2)), remove(set("c", 2)), fields(one("a"), ctr("b"))},
		{fields(one("a"), reg("b/*", long)), remove(reg("b/*", long)), ones("a")},
		{ones("a"), wrap("a"), ones("a/*")},
		{fields(reg("a/b", long), ctr("a/c")), wrap("a/b"), fields(reg("a/b/*", long), ctr("a/c"))},
		{ones("a/*"), wrap("a/*"), ones("a/*/*")},
		{ones(most), wrap(most), ones(most + "/*")},
		{ones("a/*"), head("a"), ones("a")},
		{fields(reg("a/*", yes), ctr("b")), head("a"), fields(reg("a", yes), ctr("b"))},
		{ones("a/*/*"), head("a/*"), ones("a/*")},
		{ones("a/b/*", "a/c"), head("a/b"), ones("a/b", "a/c")},
		{ones(most + "/*"), head(most), ones(most)},
		{fields(reg("a", text("x"))), toSet("a", text("x")), fields(set("a", 2))},
		{fields(one("a"), reg("b/*", no)), toSet("b/*", no), fields(one("a"), set("b/*", 3))},
		{fields(reg("a", number(math.MinInt))), toSet("a", number(math.MinInt)), fields(set("a", 1))},
		{fields(set("a", 2)), toReg("a", text("x")), fields(reg("a", text("x")))},
		{fields(set("a", 2)), toReg("a", long), fields(reg("a", long))},
		{fields(one("a"), set("b/*", 3)), toReg("b/*", yes), fields(one("a"), reg("b/*", yes))},
		{fields(reg("a", number(1))), converting("a", 1, 1, swap), fields(reg("a", number(2)))},
		{fields(reg("a", number(7))), converting("a", 1, 1, swap), fields(reg("a", number(7)))},
		{fields(reg("a", number(7))), converting("a", 1, 1, api.Table{Keep: true}), fields(reg("a", number(7)))},
		{fields(set("a", 1)), converting("a", 1, 1, swap), fields(set("a", 1))},
		{fields(reg("a", number(5))), converting("a", 1, 3, isFive), fields(reg("a", yes))},
		{fields(reg("a", number(6))), converting("a", 1, 3, isFive), fields(reg("a", no))},
		{fields(set("a", 1)), converting("a", 1, 3, isFive), fields(set("a", 3))},
		{fields(reg("a", yes)), converting("a", 3, 1, over(isFive)), fields(reg("a", number(5)))},
		{fields(reg("a", no)), converting("a", 3, 1, over(isFive)), fields(reg("a", number(6)))},
		{fields(reg("a", yes)), converting("a", 3, 2, marked), fields(reg("a", text("on")))},
		{fields(reg("a", text("off")), ctr("b")), converting("a", 2, 3, over(marked)), fields(reg("a", no), ctr("b"))},
		{fields(set("a/*", 3), ctr("b")), converting("a/*", 3, 2, marked), fields(set("a/*", 2), ctr("b"))},
	}
}

// many is a schema of n registers below that path.
func many(p string, n int) api.Schema {
	var s api.Schema
	for k := range n {
		s.Fields = append(s.Fields, one(p+"/"+string(rune('a'+k))))
	}
	return s
}

// unfitting: steps that do not fit, or that make what is no schema.
func unfitting() []change {
	return slices.Concat(unledTo(), notPut(), notChanged(), notConverted(), noSteps())
}

// unfit is these steps, none of which fits s.
func unfit(s api.Schema, all ...api.Step) []change {
	var l []change
	for _, x := range all {
		l = append(l, change{s: s, x: x})
	}
	return l
}

// unledTo: steps that move what is not there, or by no right name, or to where something is.
func unledTo() []change {
	deep := ones("a/*/c")
	two := ones("a", "b/c")
	return slices.Concat(
		unfit(fields(), rename("a", "b"), rename("", "b"), hoist("a/b"), plunge("a", "b")),
		unfit(two, rename("b/d", "e"), rename("c", "e"), rename("b/c/d", "e"), rename("aa", "e")), // no field begins so
		unfit(two, rename("b/*", "e"), rename("", "e"), rename("b/", "e")),
		unfit(two, rename("a", "a"), rename("b", "b"), rename("b/c", "c")), // the same name
		unfit(two, rename("a", ""), rename("a", "*"), rename("a", "A"), rename("a", "x/y"), rename("a", "abcdefghijklmnopq")),
		unfit(two, rename("b/c", "*"), rename("b/c", "d/e"), rename("b/c", "\xff")),
		unfit(two, rename("a", "b"), rename("b", "a")), // what is there already
		unfit(deep, rename("a/b", "e"), rename("a/*", "e"), hoist("a/b/c"), plunge("a/b", "e")),
		unfit(ones("a/x", "b/y"), rename("a", "b"), rename("b", "a")), // both would be below it
		unfit(ones("a/b/x", "a/c/y", "a/d"), rename("a/b", "c"), rename("a/c", "d"), rename("a/d", "b")),
		unfit(ones("a/*/x", "b"), rename("b", "a")),
		unfit(two, hoist("a"), hoist("b"), hoist("c"), hoist("b/d"), hoist("b/c/d"), hoist("")),
		unfit(deep, hoist("a/*/c"), hoist("a/*")), // the last but one is *; the first one would be
		unfit(ones("a/b/*"), hoist("a/b/c")),
		unfit(ones("a/b/x", "a/x/y"), hoist("a/b/x")),
		unfit(ones("b/x", "x"), hoist("b/x")),
		unfit(ones("b/x/y", "x/z"), hoist("b/x")),
		unfit(ones("b/b/x", "b/c"), hoist("b/b")),
		unfit(two, plunge("a", ""), plunge("a", "*"), plunge("a", "A"), plunge("a", "x/y"), plunge("a", "abcdefghijklmnopq")),
		unfit(two, plunge("c", "a"), plunge("b/d", "a")),
		unfit(ones("a/b/c", "b/d"), plunge("b", "a")),
		unfit(ones("a/b", "b"), plunge("b", "a")),
		unfit(ones("a", "b"), plunge("b", "a"), plunge("a", "b")), // a would be a field, and have one below
		unfit(ones("a/*", "b"), plunge("b", "a")),
		unfit(ones(longest), plunge(longest, "x"), plunge("abcdefghijklmno0", "x")), // too many segments
	)
}

// notPut: fields that can't be put in, and such as are not there.
func notPut() []change {
	three := fields(one("a"), ctr("b"), set("c", 2))
	return slices.Concat(
		unfit(fields(), add(api.Field{}), remove(api.Field{}), remove(one("a"))),
		unfit(ones("a", "c"), add(one("a")), add(ctr("a")), add(one("c/x")), add(one("a/*"))),
		unfit(ones("a", "c"), add(one("*")), add(one("")), add(one("A")), add(one("a/b/c/d/e/f/g"))),
		unfit(ones("a/*/c", "b"), add(one("a/x/c")), add(one("a")), add(one("a/*")), add(one("a/*/*")), add(one("a/*/c/d"))),
		unfit(ones("a"), add(reg("b", none)), add(reg("b", truth(2))), add(api.Field{Path: "b", Kind: api.FieldReg, Type: 1})),
		unfit(ones("a"), add(set("b", 4)), add(set("b", 0)), add(api.Field{Path: "b", Kind: api.FieldSet, Type: 1, Def: number(1)})),
		unfit(ones("a"), add(api.Field{Path: "b", Kind: 4, Type: 1}), add(api.Field{Path: "b", Kind: api.FieldCtr, Type: 2})),
		unfit(many("a", api.MaxFields), add(one("b"))),
		unfit(three, remove(reg("a", number(2))), remove(reg("a", text(""))), remove(ctr("a")), remove(one("aa"))),
		unfit(three, remove(set("b", 1)), remove(one("b")), remove(set("c", 1)), remove(reg("c", text("")))),
		unfit(three, remove(one("d")), remove(api.Field{}), remove(api.Field{Path: "a"})),
		unfit(ones("a/*"), remove(one("a")), remove(one("a/b")), remove(one("a/*/b"))),
	)
}

// notChanged: fields of another kind, or with another value that nobody wrote, than what a step changes.
func notChanged() []change {
	wraps := fields(one("a"), ctr("b"), set("c", 2), one("d/e"))
	heads := fields(ctr("a/*"), set("b/*", 2), one("c"), one("d/e"), one("f/*/x"))
	regs := fields(one("a"), ctr("b"), set("c", 1), one("d/*"))
	sets := fields(one("a"), ctr("b"), set("c", 1), set("d/*", 3), set("e", 2))
	return slices.Concat(
		unfit(fields(), wrap("a"), wrap(""), head("a"), toSet("a", number(1)), toSet("", none), toReg("a", number(1))),
		unfit(wraps, wrap("b"), wrap("c"), wrap("d"), wrap("e"), wrap("d/*"), wrap("d/e/f"), wrap("")),
		unfit(ones(longest), wrap(longest)), // too many segments
		unfit(heads, head("a"), head("b"), head("c"), head("d"), head("f"), head("f/*"), head("a/*"), head("e"), head("")),
		unfit(regs, toSet("a", number(2)), toSet("a", none), toSet("a", yes), toSet("a", api.Value{Kind: 1, Int: 1, Text: "x"})),
		unfit(regs, toSet("b", none), toSet("b", number(0)), toSet("c", none), toSet("c", number(0))),
		unfit(regs, toSet("d", number(1)), toSet("d/a", number(1)), toSet("e", number(1))),
		unfit(sets, toReg("a", number(1)), toReg("b", number(1)), toReg("b", none)),
		unfit(sets, toReg("c", none), toReg("c", text("")), toReg("c", yes), toReg("c", api.Value{Kind: 1, Text: "x"})),
		unfit(sets, toReg("d", yes), toReg("d/a", yes), toReg("d/*", truth(2)), toReg("d/*", truth(-1)), toReg("f", yes)),
		unfit(sets, toReg("e", text(strings.Repeat("x", api.MaxText+1)))),
	)
}

// notConverted: values that can't be converted.
func notConverted() []change {
	keep := api.Table{Keep: true}
	both := fields(one("a"), set("b", 1))
	return slices.Concat(
		unfit(fields(), converting("a", 1, 1, swap)),
		unfit(fields(ctr("a")), converting("a", 1, 1, swap), converting("a", 1, 1, keep), converting("a", 1, 3, isFive)),
		unfit(both, converting("c", 1, 1, swap), converting("", 1, 1, swap)),
		unfit(ones("a/*"), converting("a", 1, 1, swap), converting("a/b", 1, 1, swap)),
		unfit(both, converting("a", 2, 2, keep), converting("b", 2, 2, keep)), // of another Type
		unfit(both, converting("a", 3, 1, over(isFive)), converting("b", 3, 1, over(isFive))),
		unfit(both, converting("a", 1, 2, swap), converting("b", 1, 2, swap), converting("b", 1, 3, wrongT)), // by a table that is not right
		unfit(both, converting("b", 1, 1, isFive), converting("b", 1, 3, over(isFive)), converting("b", 1, 1, api.Table{})),
		unfit(both, converting("b", 1, 4, keep), converting("b", 1, 0, keep)),
		unfit(fields(reg("a", number(7))), converting("a", 1, 3, isFive)), // 7 becomes no, which comes back as 6
		unfit(fields(reg("a", text("x"))), converting("a", 2, 3, over(marked))),
		unfit(fields(reg("a", number(2))), converting("a", 1, 1, api.Table{Pairs: pairs(number(1), number(2)), Keep: true})),
	)
}

// noSteps: steps of kinds that there are not.
func noSteps() []change {
	var l []change
	for _, kind := range every {
		if kind >= api.StepRename && kind <= api.StepConvert {
			continue
		}
		x := with(parts, func(x *api.Step) { x.Kind = kind })
		there := with(x, func(x *api.Step) { x.Field = one("a") })
		l = slices.Concat(l, unfit(fields(), api.Step{Kind: kind}), unfit(ones("a"), api.Step{Kind: kind}, x, there))
	}
	return l
}

// wrongSchemas: what is no schema.
func wrongSchemas() []api.Schema {
	return []api.Schema{
		ones("b", "a"),
		ones("a", "a"),
		ones("a", "a/b"),
		ones("a", "c/*", "c/x"),
		ones("*"),
		ones("A", "a"),
		fields(one("a"), api.Field{}),
		fields(one("a"), set("b", 0)),
		fields(reg("a", none)),
		many("a", api.MaxFields+1),
	}
}

// parts: a step with all parts, of which each kind may take its own.
var parts = api.Step{Path: "a", Name: "z", Field: one("zz"), Def: number(1), From: 1, To: 1, Table: swap}

func TestCheck(t *testing.T) { // P14.3
	for _, c := range fitting() {
		if !schema.Right(c.s) || !schema.Right(c.want) {
			t.Fatalf("%+v, or %+v, is not right", c.s, c.want)
		}
		if got, err := Check(c.s, c.x); !schema.Same(got, c.want) || err != api.OK {
			t.Errorf("Check of\n%sby %+v:\n%s%d, want\n%s", schema.Text(c.s), c.x, schema.Text(got), err, schema.Text(c.want))
		}
	}
	for _, c := range unfitting() {
		if !schema.Right(c.s) {
			t.Fatalf("%+v is not right", c.s)
		}
		if got, err := Check(c.s, c.x); got.Fields != nil || err != api.ErrLens {
			t.Errorf("Check of\n%sby %+v:\n%s%d", schema.Text(c.s), c.x, schema.Text(got), err)
		}
	}
	for _, s := range wrongSchemas() {
		for _, kind := range every {
			x := with(parts, func(x *api.Step) { x.Kind = kind })
			for _, x := range []api.Step{x, with(x, func(x *api.Step) { x.Field = s.Fields[0] }), with(x, func(x *api.Step) { x.Path = "b" }), with(x, func(x *api.Step) { x.Path = "c" })} {
				if got, err := Check(s, x); got.Fields != nil || err != api.ErrLens {
					t.Errorf("Check of %+v by %+v: %+v, %d", s, x, got, err)
				}
			}
		}
	}
}

func TestWhatAStepDoesNotNeed(t *testing.T) { // P14.3: what a kind's words do not name does not count
	for _, c := range fitting() {
		x := c.x
		switch x.Kind {
		case api.StepAdd, api.StepRemove:
			x = with(parts, func(p *api.Step) { p.Kind, p.Field = x.Kind, x.Field })
		case api.StepRename, api.StepPlunge:
			x = with(parts, func(p *api.Step) { p.Kind, p.Path, p.Name = x.Kind, x.Path, x.Name })
		case api.StepHoist, api.StepWrap, api.StepHead:
			x = with(parts, func(p *api.Step) { p.Kind, p.Path = x.Kind, x.Path })
		case api.StepToSet, api.StepToReg:
			x = with(parts, func(p *api.Step) { p.Kind, p.Path, p.Def = x.Kind, x.Path, x.Def })
		case api.StepConvert:
			x.Name, x.Field, x.Def = parts.Name, parts.Field, parts.Def
		}
		if got, err := Check(c.s, x); !schema.Same(got, c.want) || err != api.OK {
			t.Errorf("Check of\n%sby %+v:\n%s%d, want\n%s", schema.Text(c.s), x, schema.Text(got), err, schema.Text(c.want))
		}
	}
}

// plainFits tells by the words of P14.3 what the step makes of these fields, in any order, and whether it fits.
func plainFits(l []api.Field, x api.Step) ([]api.Field, bool) {
	segs := strings.Split(x.Path, "/")
	n := len(segs)
	at := func(p string) int {
		return slices.IndexFunc(l, func(f api.Field) bool { return f.Path == p })
	}
	l = slices.Clone(l)
	switch x.Kind {
	case 1, 2, 3:
		ok := path.Pattern(x.Path) && slices.ContainsFunc(l, func(f api.Field) bool { return plainPrefix(f.Path, x.Path) })
		switch x.Kind {
		case 1:
			ok = ok && segs[n-1] != "*" && segs[n-1] != x.Name && path.Seg(x.Name)
		case 2:
			ok = ok && n >= 2 && segs[n-2] != "*"
		case 3:
			ok = ok && path.Seg(x.Name)
		}
		to := plainMove(x, x.Path)
		for k, f := range l {
			ok = ok && (!plainPrefix(f.Path, to) || plainPrefix(f.Path, x.Path))
			l[k].Path = plainMove(x, f.Path)
		}
		return l, ok
	case 4:
		return append(l, x.Field), schema.FieldRight(x.Field)
	case 5:
		k := at(x.Field.Path)
		if !schema.FieldRight(x.Field) || k < 0 || l[k] != x.Field {
			return nil, false
		}
		return append(l[:k], l[k+1:]...), true
	}
	k := at(x.Path)
	if x.Kind == 7 {
		k = at(x.Path + "/*")
	}
	if !path.Pattern(x.Path) || k < 0 {
		return nil, false
	}
	f := l[k]
	switch x.Kind {
	case 6, 7:
		l[k].Path = plainMove(x, f.Path)
		return l, f.Kind == 1
	case 8:
		l[k] = set(f.Path, f.Type)
		return l, f.Kind == 1 && f.Def == x.Def
	case 9:
		l[k] = api.Field{Path: f.Path, Kind: 1, Type: f.Type, Def: x.Def}
		return l, f.Kind == 2
	case 10:
		l[k].Type = x.To
		ok := table.Right(x.Table, x.From, x.To) && f.Kind != 3 && f.Type == x.From
		if f.Kind == 1 {
			l[k].Def = table.Apply(x.Table, f.Def)
			ok = ok && table.Back(x.Table, l[k].Def) == f.Def
		}
		return l, ok
	}
	return nil, false
}

// plainCheck tells P14.3 by its words.
func plainCheck(s api.Schema, x api.Step) (api.Schema, api.Errno) {
	if !schema.Right(s) {
		return api.Schema{}, api.ErrLens
	}
	l, ok := plainFits(s.Fields, x)
	slices.SortStableFunc(l, func(a, b api.Field) int { return strings.Compare(a.Path, b.Path) })
	if comes := fields(l...); ok && schema.Right(comes) {
		return comes, api.OK
	}
	return api.Schema{}, api.ErrLens
}

// checked holds Check, and what leads back, against their words, and tells whether the step fits.
func checked(t *testing.T, s api.Schema, x api.Step) bool {
	t.Helper()
	got, err := Check(s, x)
	if want, wantErr := plainCheck(s, x); !schema.Same(got, want) || err != wantErr {
		t.Fatalf("Check of\n%sby %+v:\n%s%d, want\n%s%d", schema.Text(s), x, schema.Text(got), err, schema.Text(want), wantErr)
	}
	if err != api.OK {
		return false
	}
	if back, err := Check(got, Turn(x)); !schema.Same(back, s) || err != api.OK { // P14.8
		t.Fatalf("Check of\n%sby %+v, turned from %+v:\n%s%d, want\n%s", schema.Text(got), Turn(x), x, schema.Text(back), err, schema.Text(s))
	}
	if again := Turn(Turn(x)); !Same(again, x) {
		t.Fatalf("%+v, twice turned: %+v", x, again)
	}
	return true
}

// smallSchemas: all schemas of one or two registers at patterns of at most three segments, and some of three.
func smallSchemas() []api.Schema {
	l := patterns(3, "a", "b", "*")
	var all []api.Schema
	say := func(l ...string) {
		slices.Sort(l)
		if s := ones(l...); schema.Right(s) {
			all = append(all, s)
		}
	}
	r := rand.New(rand.NewSource(1))
	for j, a := range l {
		say(a)
		for k, b := range l[:j] {
			say(a, b)
			for _, c := range l[:k] {
				if r.Intn(4) == 0 {
					say(a, b, c)
				}
			}
		}
	}
	return all
}

func TestCheckOfAnyPaths(t *testing.T) { // P14.3, P14.8: steps that move, of all small schemas
	var steps []api.Step
	for _, p := range append(patterns(3, "a", "b", "*"), "", "a/", "/a", "a//b") {
		steps = append(steps, hoist(p), wrap(p), head(p), add(one(p)), remove(one(p)), remove(ctr(p)), toSet(p, number(1)))
		for _, name := range []string{"a", "b", "c", "*"} {
			steps = append(steps, rename(p, name), plunge(p, name))
		}
	}
	fit := map[int]int{}
	for _, s := range smallSchemas() {
		for _, x := range steps {
			if checked(t, s, x) {
				fit[x.Kind]++
			}
		}
	}
	for kind := api.StepRename; kind <= api.StepToSet; kind++ {
		if fit[kind] < 100 {
			t.Errorf("of the kind %d fit %d: too few to tell", kind, fit[kind])
		}
	}
}

// pick is one of l.
func pick[thing any](r *rand.Rand, l ...thing) thing {
	return l[r.Intn(len(l))]
}

// someValue is a value of that kind; of no kind, one that is not right.
func someValue(r *rand.Rand, kind int) api.Value {
	switch kind {
	case api.ValInt:
		return number(pick(r, 0, 1, 2, 5, 6))
	case api.ValText:
		return text(pick(r, "", "on", "off"))
	case api.ValBool:
		return pick(r, no, yes)
	}
	return pick(r, none, truth(2), api.Value{Kind: 1, Text: "x"}, api.Value{Kind: 4}, text(strings.Repeat("x", api.MaxText+1)))
}

// someField is a field, which may be of a wrong kind.
func someField(r *rand.Rand, p string) api.Field {
	typ := 1 + r.Intn(3)
	f := pick(r, reg(p, someValue(r, typ)), set(p, typ), ctr(p))
	if r.Intn(30) == 0 {
		f.Kind, f.Type = r.Intn(5), r.Intn(5)
	}
	return f
}

// somePaths: patterns, most of which part from one another.
var somePaths = []string{"a", "b", "c/a", "c/b/a", "c/b/b", "d/*", "e/*/a", "e/*/b/a", "e/*/b/b", "f/a/*", "g/a/a/a/a/a", "aa"}

// someSchema is a schema of some of these, which most often is right.
func someSchema(r *rand.Rand) api.Schema {
	var l []api.Field
	for _, p := range somePaths {
		if r.Intn(2) == 0 {
			l = append(l, someField(r, p))
		}
	}
	return schema.Of(l...)
}

// someTable is a table from values of the kind from to such of the kind to, which may be right.
func someTable(r *rand.Rand, from, to int) api.Table {
	t := api.Table{Keep: from == to && r.Intn(2) == 0, Turned: r.Intn(2) == 0}
	if t.Turned {
		from, to = to, from
	}
	for range r.Intn(3) {
		t.Pairs = append(t.Pairs, api.Pair{From: someValue(r, from), To: someValue(r, to)})
	}
	if !t.Keep || r.Intn(20) == 0 {
		t.Def, t.Back = someValue(r, to), someValue(r, from)
	}
	return t
}

// someStep is a step that may well fit s, and that has no parts but its own.
func someStep(r *rand.Rand, s api.Schema) api.Step {
	f := someField(r, pick(r, somePaths...))
	if len(s.Fields) > 0 && r.Intn(8) > 0 {
		f = pick(r, s.Fields...)
	}
	segs := strings.Split(f.Path, "/")
	top := strings.Join(segs[:1+r.Intn(len(segs))], "/")
	name := pick(r, "a", "b", "c", "x", "y", "z", "*", "")
	switch kind := 1 + r.Intn(10); kind {
	case api.StepRename, api.StepPlunge:
		return api.Step{Kind: kind, Path: top, Name: name}
	case api.StepHoist:
		return hoist(top)
	case api.StepAdd:
		return add(someField(r, pick(r, "h", "h/*", "c/c", "e/*/c", f.Path, "*", "")))
	case api.StepRemove:
		if r.Intn(5) == 0 {
			f = someField(r, f.Path)
		}
		return remove(f)
	case api.StepWrap:
		return wrap(f.Path)
	case api.StepHead:
		return head(strings.TrimSuffix(f.Path, "/*"))
	case api.StepToSet, api.StepToReg:
		def := f.Def
		if def == none || r.Intn(5) == 0 {
			def = someValue(r, f.Type)
		}
		return api.Step{Kind: kind, Path: f.Path, Def: def}
	}
	from, to := f.Type, 1+r.Intn(3)
	if r.Intn(8) == 0 {
		from = r.Intn(5)
	}
	return converting(f.Path, from, to, someTable(r, from, to))
}

// drawn is n steps, each with a schema that it may well fit.
func drawn(seed int64, n int) []change {
	r := rand.New(rand.NewSource(seed))
	var l []change
	for range n {
		s := someSchema(r)
		l = append(l, change{s: s, x: someStep(r, s)})
	}
	return l
}

func TestCheckOfAny(t *testing.T) { // P14.3, P14.8: steps of all kinds, held against the words
	fit, other := map[int]int{}, map[int]int{}
	for _, c := range drawn(2, 60000) {
		if checked(t, c.s, c.x) {
			fit[c.x.Kind]++
		} else {
			other[c.x.Kind]++
		}
	}
	for kind := api.StepRename; kind <= api.StepConvert; kind++ {
		if fit[kind] < 100 || other[kind] < 100 {
			t.Errorf("of the kind %d fit %d, and %d do not: too few to tell", kind, fit[kind], other[kind])
		}
	}
}

func TestTurned(t *testing.T) { // P14.8: one step behind another, and back by all of them
	r := rand.New(rand.NewSource(3))
	most := 0
	for range 3000 {
		first := someSchema(r)
		s := first
		var way []api.Step
		for range 12 {
			x := someStep(r, s)
			if to, err := Check(s, x); err == api.OK {
				s, way = to, append(way, x)
			}
		}
		most = max(most, len(way))
		if len(way) == 0 {
			continue
		}
		for _, x := range slices.Backward(way) {
			to, err := Check(s, Turn(x))
			if err != api.OK {
				t.Fatalf("%+v does not lead back:\n%s", x, schema.Text(s))
			}
			s = to
		}
		if !schema.Same(s, first) {
			t.Fatalf("%+v lead back to\n%snot to\n%s", way, schema.Text(s), schema.Text(first))
		}
	}
	if most < 6 {
		t.Errorf("at most %d steps fit: too few to tell", most)
	}
}

func TestTurn(t *testing.T) { // P14.4
	for _, c := range []struct{ x, want api.Step }{
		{rename("a", "b"), rename("b", "a")},
		{rename("a/b/c", "d"), rename("a/b/d", "c")},
		{rename("a/*", "b"), rename("a/b", "*")},
		{rename("a", ""), rename("", "a")},
		{rename("a", "x/y"), rename("x/y", "a")},
		{rename("", "a"), rename("a", "")},
		{hoist("a/x"), plunge("x", "a")},
		{hoist("a/b/x"), plunge("a/x", "b")},
		{hoist("a/*/x"), plunge("a/x", "*")},
		{hoist("a/b/*"), plunge("a/*", "b")},
		{hoist("a/a/b"), plunge("a/b", "a")},
		{hoist("a"), hoist("a")}, // fewer than two segments: as it is
		{hoist(""), hoist("")},
		{with(hoist("a"), func(x *api.Step) { x.Name = "b" }), with(hoist("a"), func(x *api.Step) { x.Name = "b" })},
		{with(hoist("a/x"), func(x *api.Step) { x.Name = "b" }), plunge("x", "a")},
		{hoist("/x"), plunge("x", "")},
		{plunge("x", "a"), hoist("a/x")},
		{plunge("a/x", "b"), hoist("a/b/x")},
		{plunge("a/*", "b"), hoist("a/b/*")},
		{plunge("x", ""), hoist("/x")},
		{plunge("x", "a/b"), hoist("a/b/x")},
		{plunge("", "a"), hoist("a/")},
		{add(one("a")), remove(one("a"))},
		{remove(ctr("a/*")), add(ctr("a/*"))},
		{wrap("a/b"), head("a/b")},
		{head("a"), wrap("a")},
		{toSet("a", text("x")), toReg("a", text("x"))},
		{toReg("a/*", no), toSet("a/*", no)},
		{converting("a", 1, 3, isFive), converting("a", 3, 1, over(isFive))},
		{converting("a", 3, 1, over(isFive)), converting("a", 1, 3, isFive)},
		{converting("a", math.MinInt, 7, api.Table{}), converting("a", 7, math.MinInt, api.Table{Turned: true})},
		{api.Step{}, api.Step{}},
		{api.Step{Kind: 11}, api.Step{Kind: 11}},
	} {
		if got := Turn(c.x); !reflect.DeepEqual(got, c.want) {
			t.Errorf("Turn of %+v: %+v, want %+v", c.x, got, c.want)
		}
	}
	for _, kind := range every { // all other parts stay
		x := with(parts, func(x *api.Step) { x.Kind, x.Path, x.Def, x.From = kind, "a/b", yes, 3 })
		want := x
		switch kind {
		case api.StepRename:
			want.Path, want.Name = "a/z", "b"
		case api.StepHoist:
			want.Kind, want.Path, want.Name = api.StepPlunge, "b", "a"
		case api.StepPlunge:
			want.Kind, want.Path, want.Name = api.StepHoist, "a/z/b", ""
		case api.StepConvert:
			want.From, want.To, want.Table = 1, 3, over(swap)
		case 4, 6, 8:
			want.Kind = kind + 1
		case 5, 7, 9:
			want.Kind = kind - 1
		}
		if got := Turn(x); !reflect.DeepEqual(got, want) {
			t.Errorf("Turn of %+v: %+v, want %+v", x, got, want)
		}
	}
}

// wide: a number that no int has the lowest bits of alone.
const wide = 1<<32 + 1

func TestPut(t *testing.T) { // P14.5
	empty := "\x01\x00\x00\x00\x00" // a schema of a field that is all zero
	for _, c := range []struct {
		x    api.Step
		want string
	}{
		{api.Step{}, "\x00\x00\x00" + empty + "\x00\x00\x00\x00\x00\x00\x00"},
		{hoist("a/x"), "\x02\x03a/x\x00" + empty + "\x00\x00\x00\x00\x00\x00\x00"},
		{rename("a", "bc"), "\x01\x01a\x02bc" + empty + "\x00\x00\x00\x00\x00\x00\x00"},
		{plunge("a", "bc"), "\x03\x01a\x02bc" + empty + "\x00\x00\x00\x00\x00\x00\x00"},
		{add(ctr("a")), "\x04\x00\x00\x01\x01a\x03\x01\x00\x00\x00\x00\x00\x00\x00\x00"},
		{remove(reg("a/*", number(-5))), "\x05\x00\x00\x01\x03a/*\x01\x01\x01\x09\x00\x00\x00\x00\x00\x00\x00"},
		{wrap("a"), "\x06\x01a\x00" + empty + "\x00\x00\x00\x00\x00\x00\x00"},
		{head("a"), "\x07\x01a\x00" + empty + "\x00\x00\x00\x00\x00\x00\x00"},
		{toSet("a", text("x")), "\x08\x01a\x00" + empty + "\x02\x01x\x00\x00\x00\x00\x00\x00"},
		{toReg("a", yes), "\x09\x01a\x00" + empty + "\x03\x02\x00\x00\x00\x00\x00\x00"},
		{converting("a", 1, 3, over(isFive)), "\x0a\x01a\x00" + empty + "\x00\x02\x06\x02\x01\x01\x0a\x03\x02\x03\x00\x01\x0c"},
		{converting("", -1, -2, api.Table{}), "\x0a\x00\x00" + empty + "\x00\x01\x03\x00\x00\x00\x00"},
		{converting("", math.MinInt, math.MaxInt, api.Table{}), "\x0a\x00\x00" + empty + "\x00" + varint.Put("", math.MaxUint64) + varint.Put("", math.MaxUint64-1) + "\x00\x00\x00\x00"},
		{api.Step{Kind: 15}, "\x0f\x00\x00" + empty + "\x00\x00\x00\x00\x00\x00\x00"}, // the lowest four bits
		{api.Step{Kind: 16}, "\x00\x00\x00" + empty + "\x00\x00\x00\x00\x00\x00\x00"},
		{api.Step{Kind: 21}, "\x05\x00\x00" + empty + "\x00\x00\x00\x00\x00\x00\x00"},
		{api.Step{Kind: -1}, "\x0f\x00\x00" + empty + "\x00\x00\x00\x00\x00\x00\x00"},
		{api.Step{Kind: math.MinInt}, "\x00\x00\x00" + empty + "\x00\x00\x00\x00\x00\x00\x00"},
		{api.Step{Kind: wide}, "\x01\x00\x00" + empty + "\x00\x00\x00\x00\x00\x00\x00"},
		{api.Step{Path: strings.Repeat("x", 200), Name: strings.Repeat("y", 20)}, "\x00\xc8\x01" + strings.Repeat("x", 200) + "\x14" + strings.Repeat("y", 20) + empty + "\x00\x00\x00\x00\x00\x00\x00"}, // what is not right is put, too
		{add(api.Field{Path: "a", Kind: 6, Type: 7, Def: truth(9)}), "\x04\x00\x00\x01\x01a\x02\x03\x03\x12\x00\x00\x00\x00\x00\x00\x00"},
		{with(parts, func(x *api.Step) { x.Kind = 10 }), "\x0a\x01a\x01z\x01\x02zz\x01\x01\x01\x02\x01\x02\x02\x02" + table.Put("", swap)},
	} {
		for _, b := range []string{"", "b", "\x80\xff"} {
			if got := Put(b, c.x); got != b+c.want {
				t.Errorf("Put behind %x of %+v: %x, want %x", b, c.x, got, b+c.want)
			}
		}
	}
}

// tails: what may follow a step; some look like parts of one.
var tails = []string{"", "a", "\x00", "\x01\x02", "\x02\x01a", "\x80", "\xff\xff\xff\xff\xff\xff\xff\xff\xff\xff\xff"}

// edges: steps with the longest parts, and such as have parts of all kinds.
func edges() []api.Step {
	eight := api.Table{Keep: true, Pairs: make([]api.Pair, api.MaxPairs)}
	all := api.Step{Kind: 10, Path: strings.Repeat("x", 102), Name: strings.Repeat("\xff", 16), Field: reg(longest, text(strings.Repeat("x", api.MaxText))), Def: number(math.MinInt), From: math.MinInt, To: math.MaxInt, Table: eight}
	l := []api.Step{all, {}, with(all, func(x *api.Step) { x.Field = api.Field{} })}
	for kind := range 11 {
		l = append(l, api.Step{Kind: kind}, with(parts, func(x *api.Step) { x.Kind = kind }))
	}
	return l
}

// takable tells whether x, put, can be taken: its values are right, or none, and its field is, or is all zero.
func takable(x api.Step) bool {
	l := []api.Value{x.Def, x.Table.Def, x.Table.Back}
	for _, p := range x.Table.Pairs {
		l = append(l, p.From, p.To)
	}
	wrong := func(v api.Value) bool { return v != none && !val.Right(v) }
	return !slices.ContainsFunc(l, wrong) && (x.Field == api.Field{} || schema.FieldRight(x.Field))
}

func TestWhatIsPutIsTaken(t *testing.T) { // P14.5, P14.6
	count := 0
	steps := edges()
	for _, c := range drawn(4, 8000) {
		steps = append(steps, c.x)
	}
	for _, x := range steps {
		if !takable(x) {
			continue
		}
		count++
		b := Put("", x)
		for _, tail := range tails {
			got, rest, err := Take(b + tail)
			if err != api.OK || rest != tail || !Same(got, x) {
				t.Fatalf("Take of what is put of %+v and %x: %+v, %x, %d", x, tail, got, rest, err)
			}
		}
		for k := range len(b) {
			if got, rest, err := Take(b[:k]); !Same(got, api.Step{}) || rest != "" || err != api.ErrShort {
				t.Fatalf("Take of the first %d bytes of %x: %+v, %x, %d", k, b, got, rest, err)
			}
		}
	}
	if count < 5000 {
		t.Errorf("%d of these can be taken: too few to tell", count)
	}
}

func TestTake(t *testing.T) { // P14.6
	nine := strings.Repeat("\x80", 9)
	huge := varint.Put("", math.MaxUint64)
	empty := "\x01\x00\x00\x00\x00"
	zero := "\x00\x00\x00\x00\x00\x00\x00" // Def, From, To, and a table
	long := strings.Repeat("x", 102)
	name := strings.Repeat("n", 16)
	f := "\x01\x01a\x03\x01\x00" // a schema of the counter a
	for _, c := range []struct {
		b    string
		x    api.Step
		rest string
		err  api.Errno
	}{
		{"\x00\x00\x00" + empty + zero, api.Step{}, "", api.OK},
		{"\x02\x03a/x\x00" + empty + zero + "rest", hoist("a/x"), "rest", api.OK},
		{"\x04\x00\x00" + f + zero + "\x00", add(ctr("a")), "\x00", api.OK},
		{"\x0a\x01a\x00" + empty + "\x00\x02\x06\x02\x01\x01\x0a\x03\x02\x03\x00\x01\x0c", converting("a", 1, 3, over(isFive)), "", api.OK},
		{"\x00\x66" + long + "\x10" + name + empty + zero, api.Step{Path: long, Name: name}, "", api.OK}, // whatever the bytes of a path are
		{"\x00\x01\xff\x01/" + empty + zero, api.Step{Path: "\xff", Name: "/"}, "", api.OK},
		{"\x00\x00\x00" + empty + "\x00" + huge + huge + "\x00\x00\x00\x00", api.Step{From: math.MinInt, To: math.MinInt}, "", api.OK},
		{"\x00\x00\x00" + f + "\x03\x02\x01\x03\x03\x00\x00\x01\x02", api.Step{Field: ctr("a"), Def: yes, From: -1, To: -2, Table: api.Table{Keep: true, Turned: true, Back: number(1)}}, "", api.OK},
		{"", api.Step{}, "", api.ErrShort}, // in Kind
		{"\x80", api.Step{}, "", api.ErrShort},
		{"\x81\x00", api.Step{}, "", api.ErrForm},
		{nine + "\x02", api.Step{}, "", api.ErrLong},
		{"\x0b", api.Step{}, "", api.ErrForm}, // told at once, whatever follows
		{"\x0b\x67", api.Step{}, "", api.ErrForm},
		{"\x0b\x00\x00" + empty + zero, api.Step{}, "", api.ErrForm},
		{"\x0f\x00\x00" + empty + zero, api.Step{}, "", api.ErrForm},
		{"\x10\x00\x00" + empty + zero, api.Step{}, "", api.ErrForm},
		{"\x7f\x00\x00" + empty + zero, api.Step{}, "", api.ErrForm},
		{varint.Put("", wide) + "\x00\x00" + empty + zero, api.Step{}, "", api.ErrForm},
		{huge + "\x00\x00" + empty + zero, api.Step{}, "", api.ErrForm},
		{"\x0a", api.Step{}, "", api.ErrShort}, // in Path
		{"\x00\x02a", api.Step{}, "", api.ErrShort},
		{"\x00\x80\x00", api.Step{}, "", api.ErrForm},
		{"\x00\x67", api.Step{}, "", api.ErrLong}, // told at once, too
		{"\x00\x67" + long + "x\x00" + empty + zero, api.Step{}, "", api.ErrLong},
		{"\x00" + huge, api.Step{}, "", api.ErrLong},
		{"\x00\x66" + long[1:], api.Step{}, "", api.ErrShort},
		{"\x00\x00", api.Step{}, "", api.ErrShort}, // in Name
		{"\x00\x00\x80\x00", api.Step{}, "", api.ErrForm},
		{"\x00\x00\x11", api.Step{}, "", api.ErrLong},
		{"\x00\x00\x11" + name + "n" + empty + zero, api.Step{}, "", api.ErrLong},
		{"\x00\x00\x10" + name[1:], api.Step{}, "", api.ErrShort},
		{"\x00\x00\x11\x00", api.Step{}, "", api.ErrLong},
		{"\x00\x00\x00", api.Step{}, "", api.ErrShort}, // in the schema
		{"\x00\x00\x00\x00", api.Step{}, "", api.ErrForm},
		{"\x00\x00\x00\x00" + zero, api.Step{}, "", api.ErrForm}, // no field
		{"\x00\x00\x00\x01", api.Step{}, "", api.ErrShort},
		{"\x00\x00\x00\x01\x00\x00\x00", api.Step{}, "", api.ErrShort},
		{"\x00\x00\x00\x19", api.Step{}, "", api.ErrLong},
		{"\x00\x00\x00\x01\x67", api.Step{}, "", api.ErrLong},
		{"\x00\x00\x00\x01\x00\x04\x00\x00" + zero, api.Step{}, "", api.ErrForm},
		{"\x00\x00\x00\x01\x00\x04\x00\x02\xc9\x01", api.Step{}, "", api.ErrLong}, // told of a number behind its field
		{"\x00\x00\x00\x01\x00\x00\x04\x00" + zero, api.Step{}, "", api.ErrForm},
		{"\x00\x00\x00\x01\x00\x00\x00\x04" + zero, api.Step{}, "", api.ErrForm},
		{"\x00\x00\x00\x01\x00\x01\x00\x00" + zero, api.Step{}, "", api.ErrForm}, // all zero, but for one part
		{"\x00\x00\x00\x01\x00\x00\x01\x00" + zero, api.Step{}, "", api.ErrForm},
		{"\x00\x00\x00\x01\x00\x00\x00\x01\x00" + zero, api.Step{}, "", api.ErrForm},
		{"\x00\x00\x00\x01\x01a\x00\x00\x00" + zero, api.Step{}, "", api.ErrForm},
		{"\x00\x00\x00\x01\x01A\x03\x01\x00" + zero, api.Step{}, "", api.ErrForm},
		{"\x00\x00\x00\x01\x01a\x03\x02\x00" + zero, api.Step{}, "", api.ErrForm},
		{"\x00\x00\x00\x02\x01a\x03\x01\x00\x01b\x03\x01\x00" + zero, api.Step{}, "", api.ErrForm}, // two fields
		{"\x00\x00\x00\x02\x01a\x03\x01\x00\x01b\x03\x01\x00\x04", api.Step{}, "", api.ErrForm},
		{"\x00\x00\x00\x02\x00\x00\x00\x00\x00\x00\x00\x00" + zero, api.Step{}, "", api.ErrForm},
		{"\x00\x00\x00\x02\x01a\x03\x01\x00", api.Step{}, "", api.ErrShort},
		{"\x00\x00\x00\x02\x00\x00\x00\x00", api.Step{}, "", api.ErrShort},
		{"\x00\x00\x00\x02\x01a\x03\x01\x00\x67", api.Step{}, "", api.ErrLong},
		{"\x00\x00\x00" + empty, api.Step{}, "", api.ErrShort}, // in Def
		{"\x00\x00\x00" + empty + "\x04", api.Step{}, "", api.ErrForm},
		{"\x00\x00\x00" + f + "\x03\x04", api.Step{}, "", api.ErrForm},
		{"\x00\x00\x00" + f + "\x02\xc9\x01", api.Step{}, "", api.ErrLong},
		{"\x00\x00\x00" + empty + "\x00", api.Step{}, "", api.ErrShort}, // in From
		{"\x00\x00\x00" + empty + "\x00\x80\x00", api.Step{}, "", api.ErrForm},
		{"\x00\x00\x00" + empty + "\x00" + nine + "\x02", api.Step{}, "", api.ErrLong},
		{"\x00\x00\x00" + empty + "\x00\x00", api.Step{}, "", api.ErrShort}, // in To
		{"\x00\x00\x00" + empty + "\x00\x00\x80\x00", api.Step{}, "", api.ErrForm},
		{"\x00\x00\x00" + empty + "\x00\x00" + nine + "\x02", api.Step{}, "", api.ErrLong},
		{"\x00\x00\x00" + empty + "\x00\x00\x00", api.Step{}, "", api.ErrShort}, // in the table
		{"\x00\x00\x00" + empty + "\x00\x00\x00\x04", api.Step{}, "", api.ErrForm},
		{"\x00\x00\x00" + empty + "\x00\x00\x00\x00\x09", api.Step{}, "", api.ErrLong},
		{"\x00\x00\x00" + empty + "\x00\x00\x00\x00\x00\x00", api.Step{}, "", api.ErrShort},
		{"\x00\x00\x00" + empty + "\x00\x00\x00\x00\x00\x00\x04", api.Step{}, "", api.ErrForm},
		{"\x00\x67\x11", api.Step{}, "", api.ErrLong}, // the first error
		{"\x00\x80\x00\x11", api.Step{}, "", api.ErrForm},
		{"\x00\x00\x11\x00\x04", api.Step{}, "", api.ErrLong},
		{"\x00\x00\x00\x00\x02\xc9\x01", api.Step{}, "", api.ErrForm},
		{"\x00\x00\x00" + empty + "\x02\xc9\x01\x80\x00", api.Step{}, "", api.ErrLong},
		{"\x00\x00\x00" + empty + "\x00\x80\x00" + nine + "\x02", api.Step{}, "", api.ErrForm},
		{"\x00\x00\x00" + empty + "\x00\x00" + nine + "\x02\x04", api.Step{}, "", api.ErrLong},
	} {
		got, rest, err := Take(c.b)
		if !reflect.DeepEqual(got, c.x) || rest != c.rest || err != c.err {
			t.Errorf("Take of %x: %+v, %x, %d, want %+v, %x, %d", c.b, got, rest, err, c.x, c.rest, c.err)
		}
	}
}

// plainTake tells P14.6 by its words, one behind another.
func plainTake(b string) (x api.Step, rest string, err api.Errno) {
	fail := func(err api.Errno) (api.Step, string, api.Errno) { return api.Step{}, "", err }
	kind, rest, err := varint.Take(b)
	if err != api.OK {
		return fail(err)
	}
	if kind > 10 {
		return fail(api.ErrForm)
	}
	x.Kind = int(kind)
	if x.Path, rest, err = varint.TakeText(rest, 6*17); err != api.OK {
		return fail(err)
	}
	if x.Name, rest, err = varint.TakeText(rest, 16); err != api.OK {
		return fail(err)
	}
	if strings.HasPrefix(rest, "\x01\x00\x00\x00\x00") {
		rest = rest[5:]
	} else {
		s, behind, err := schema.Take(rest)
		if err != api.OK {
			return fail(err)
		}
		if len(s.Fields) != 1 {
			return fail(api.ErrForm)
		}
		x.Field, rest = s.Fields[0], behind
	}
	if x.Def, rest, err = val.Take(rest); err != api.OK {
		return fail(err)
	}
	if x.From, rest, err = varint.TakeInt(rest); err != api.OK {
		return fail(err)
	}
	if x.To, rest, err = varint.TakeInt(rest); err != api.OK {
		return fail(err)
	}
	if x.Table, rest, err = table.Take(rest); err != api.OK {
		return fail(err)
	}
	return x, rest, api.OK
}

// someBytes: texts that begin as a step does, and such that are changed or cut.
func someBytes(seed int64, n int) []string {
	r := rand.New(rand.NewSource(seed))
	l := []string{""}
	for a := range 256 {
		for b := range 256 {
			l = append(l, string([]byte{byte(a), byte(b)}), string([]byte{byte(a % 11), 0, 0, byte(a), byte(b)}))
		}
	}
	steps := edges()
	for _, c := range drawn(seed, n) {
		steps = append(steps, c.x)
	}
	for _, x := range steps {
		b := []byte(Put("", x) + pick(r, tails...))
		for range r.Intn(3) {
			k := r.Intn(len(b))
			b[k] = pick(r, byte(r.Intn(256)), byte(r.Intn(5)), b[k]+1, 0x80, 0)
		}
		if r.Intn(3) == 0 {
			b = b[:r.Intn(len(b)+1)]
		}
		l = append(l, string(b))
	}
	return l
}

func TestTakeOfAnyBytes(t *testing.T) { // P14.6, R1, R6: held against its words; what is taken is put as just these bytes
	told := map[api.Errno]int{}
	for _, b := range someBytes(5, 60000) {
		got, rest, err := Take(b)
		want, wantRest, wantErr := plainTake(b)
		if !reflect.DeepEqual(got, want) || rest != wantRest || err != wantErr {
			t.Fatalf("Take of %x: %+v, %x, %d, want %+v, %x, %d", b, got, rest, err, want, wantRest, wantErr)
		}
		if err == api.OK && Put("", got)+rest != b {
			t.Fatalf("%x is taken, and put as %x", b, Put("", got)+rest)
		}
		told[err]++
	}
	for _, err := range []api.Errno{api.OK, api.ErrShort, api.ErrForm, api.ErrLong} {
		if told[err] < 200 {
			t.Errorf("%d is told %d times: too few to tell", err, told[err])
		}
	}
	if len(told) != 4 {
		t.Errorf("other errors are told: %v", told)
	}
}

func TestSame(t *testing.T) { // P14.7
	base := with(parts, func(x *api.Step) { x.Kind = api.StepConvert })
	l := []api.Step{
		base,
		{},
		parts,
		with(base, func(x *api.Step) { x.Kind = -1 }),
		with(base, func(x *api.Step) { x.Kind += 16 }),
		with(base, func(x *api.Step) { x.Path = "b" }),
		with(base, func(x *api.Step) { x.Path = "" }),
		with(base, func(x *api.Step) { x.Name = "zz" }),
		with(base, func(x *api.Step) { x.Path, x.Name = x.Name, x.Path }),
		with(base, func(x *api.Step) { x.Field = api.Field{} }),
		with(base, func(x *api.Step) { x.Field.Path = "z" }),
		with(base, func(x *api.Step) { x.Field.Kind = 2 }),
		with(base, func(x *api.Step) { x.Field.Type = 2 }),
		with(base, func(x *api.Step) { x.Field.Def = number(2) }),
		with(base, func(x *api.Step) { x.Def = none }),
		with(base, func(x *api.Step) { x.Def.Int = 2 }),
		with(base, func(x *api.Step) { x.Def.Text = "a" }),
		with(base, func(x *api.Step) { x.From = 2 }),
		with(base, func(x *api.Step) { x.To = 2 }),
		with(base, func(x *api.Step) { x.From, x.To = 0, 0 }),
		with(base, func(x *api.Step) { x.Table = api.Table{} }),
		with(base, func(x *api.Step) { x.Table.Pairs = x.Table.Pairs[:1] }),
		with(base, func(x *api.Step) { x.Table.Pairs = nil }),
		with(base, func(x *api.Step) {
			x.Table.Pairs = pairs(number(2), number(1), number(1), number(2)) // in another order
		}),
		with(base, func(x *api.Step) { x.Table.Keep = false }),
		with(base, func(x *api.Step) { x.Table.Turned = true }),
		with(base, func(x *api.Step) { x.Table.Def = yes }),
		with(base, func(x *api.Step) { x.Table.Back = yes }),
	}
	for j, a := range l {
		for k, b := range l {
			b.Table.Pairs = slices.Clone(b.Table.Pairs)
			if Same(a, b) != (j == k) {
				t.Errorf("Same of %+v and %+v: %t", a, b, j != k)
			}
		}
	}
	if a, b := (api.Step{}), (api.Step{Table: api.Table{Pairs: []api.Pair{}}}); !Same(a, b) || !Same(b, a) {
		t.Error("no pairs and none are not the same")
	}
}

func TestArgumentsAreNotChanged(t *testing.T) { // R3: nor the room behind their ends, and answers are new memory
	l := append(drawn(6, 5000), fitting()...)
	for _, c := range append(l, unfitting()...) {
		room := append(slices.Clone(c.s.Fields), one("z"), one("y"), one("x"))
		pairRoom := append(slices.Clone(c.x.Table.Pairs), swap.Pairs...)
		had, pairsHad := slices.Clone(room), slices.Clone(pairRoom)
		s, x := fields(room[:len(c.s.Fields)]...), c.x
		x.Table.Pairs = pairRoom[:len(c.x.Table.Pairs)]
		got, err := Check(s, x)
		turned := Turn(x)
		Move(x, x.Path)
		Same(x, turned)
		b := Put("b", x)
		if !slices.Equal(room, had) || !slices.Equal(pairRoom, pairsHad) {
			t.Fatalf("%+v or %+v were changed: %+v, %+v", had, pairsHad, room, pairRoom)
		}
		for k := range got.Fields[:cap(got.Fields)] {
			got.Fields[:cap(got.Fields)][k] = api.Field{Path: "spoilt"}
		}
		if x.Kind == api.StepConvert { // of other kinds the table is handed on just as it is
			for k := range turned.Table.Pairs[:cap(turned.Table.Pairs)] {
				turned.Table.Pairs[:cap(turned.Table.Pairs)][k] = api.Pair{From: text("spoilt")}
			}
		}
		if !slices.Equal(room, had) || !slices.Equal(pairRoom, pairsHad) {
			t.Fatalf("what %+v makes shares memory with what was handed in", x)
		}
		if again, errAgain := Check(s, x); errAgain != err || err == api.OK && !schema.Right(again) {
			t.Fatalf("what Check of %+v by %+v answers is kept", s, x)
		}
		first, _, err := Take(b[1:])
		second, _, _ := Take(b[1:])
		for k := range first.Table.Pairs {
			first.Table.Pairs[k] = api.Pair{From: text("spoilt")}
		}
		if want, _, _ := plainTake(b[1:]); err == api.OK && !Same(second, want) {
			t.Fatalf("what is taken of %x is kept", b[1:])
		}
	}
}

func TestMany(t *testing.T) { // R1: of long paths, many fields and many pairs
	const n = 1 << 18
	long := strings.Repeat("a/", n) + "a"
	for _, kind := range every {
		x := api.Step{Kind: kind, Path: long, Name: long, Def: text(long), From: n, To: -n}
		x.Table.Pairs = make([]api.Pair, n)
		x.Field.Path = long
		if got, err := Check(ones("a"), x); got.Fields != nil || err != api.ErrLens {
			t.Errorf("Check by a step of the kind %d with long parts: %+v, %d", kind, got, err)
		}
		if got, err := Check(ones(long), x); got.Fields != nil || err != api.ErrLens {
			t.Errorf("Check of a long path: %+v, %d", got, err)
		}
		if back := Turn(Turn(x)); (kind < api.StepRename || kind > api.StepPlunge) && !Same(back, x) {
			t.Errorf("a step of the kind %d, twice turned, is another one", kind)
		}
		if !Prefix(long+"/b", long) || Prefix(long, long+"/b") || Move(x, long) != plainMove(x, long) {
			t.Errorf("a step of the kind %d moves a long path elsewhere", kind)
		}
		want := api.ErrLong
		if kind&15 > api.StepConvert {
			want = api.ErrForm
		}
		if got, rest, err := Take(Put("", x)); !Same(got, api.Step{}) || rest != "" || err != want {
			t.Errorf("Take of long parts: %+v, %x, %d", got, rest, err)
		}
	}
	s := many("a", api.MaxFields)
	for range n {
		s.Fields = append(s.Fields, one("b"))
	}
	if got, err := Check(s, rename("a", "c")); got.Fields != nil || err != api.ErrLens {
		t.Errorf("Check of many fields: %+v, %d", got, err)
	}
}

func TestTheSameIsToldAgain(t *testing.T) { // R4
	tell := func() string {
		var b strings.Builder
		for _, c := range drawn(7, 2000) {
			got, err := Check(c.s, c.x)
			taken, rest, takeErr := Take(Put("", c.x) + "rest")
			fmt.Fprintln(&b, got, err, Turn(c.x), Move(c.x, "c/b/a"), Put("b", c.x), taken, rest, takeErr)
		}
		return b.String()
	}
	if tell() != tell() {
		t.Error("not the same")
	}
}
