package lens

import (
	"fmt"
	"math"
	"math/rand"
	"reflect"
	"slices"
	"strings"
	"testing"

	"lorgnette/api"
	"lorgnette/path"
	"lorgnette/schema"
	"lorgnette/step"
	"lorgnette/varint"
)

// number, text and truth are values, shortly.
func number(n int) api.Value  { return api.Value{Kind: api.ValInt, Int: n} }
func text(s string) api.Value { return api.Value{Kind: api.ValText, Text: s} }
func truth(n int) api.Value   { return api.Value{Kind: api.ValBool, Int: n} }

// no and yes are both truths.
var no, yes = truth(0), truth(1)

// reg is a register that has v where nobody wrote.
func reg(p string, v api.Value) api.Field {
	return api.Field{Path: p, Kind: api.FieldReg, Type: v.Kind, Def: v}
}

// set is a set of values of that kind.
func set(p string, of int) api.Field {
	return api.Field{Path: p, Kind: api.FieldSet, Type: of}
}

// ctr is a counter.
func ctr(p string) api.Field {
	return api.Field{Path: p, Kind: api.FieldCtr, Type: api.ValInt}
}

// one is a register of numbers.
func one(p string) api.Field {
	return reg(p, number(1))
}

// fields is a schema as it is written down.
func fields(l ...api.Field) api.Schema {
	return api.Schema{Fields: l}
}

// ones is a schema of registers of numbers at these patterns, as they are written down.
func ones(l ...string) api.Schema {
	var s api.Schema
	for _, p := range l {
		s.Fields = append(s.Fields, one(p))
	}
	return s
}

// Steps, shortly.
func rename(p, name string) api.Step {
	return api.Step{Kind: api.StepRename, Path: p, Name: name}
}
func hoist(p string) api.Step {
	return api.Step{Kind: api.StepHoist, Path: p}
}
func plunge(p, name string) api.Step {
	return api.Step{Kind: api.StepPlunge, Path: p, Name: name}
}
func add(f api.Field) api.Step {
	return api.Step{Kind: api.StepAdd, Field: f}
}
func remove(f api.Field) api.Step {
	return api.Step{Kind: api.StepRemove, Field: f}
}
func wrap(p string) api.Step {
	return api.Step{Kind: api.StepWrap, Path: p}
}
func head(p string) api.Step {
	return api.Step{Kind: api.StepHead, Path: p}
}
func toSet(p string, def api.Value) api.Step {
	return api.Step{Kind: api.StepToSet, Path: p, Def: def}
}
func toReg(p string, def api.Value) api.Step {
	return api.Step{Kind: api.StepToReg, Path: p, Def: def}
}
func converting(p string, from, to int, t api.Table) api.Step {
	return api.Step{Kind: api.StepConvert, Path: p, From: from, To: to, Table: t}
}

// exchanging is a step that converts numbers at that pattern to numbers, and fits whatever it has where nobody wrote.
func exchanging(p string) api.Step {
	return converting(p, 1, 1, swap)
}

// lens is these steps, one behind the other.
func lens(l ...api.Step) []api.Step {
	return l
}

// over is t turned.
func over(t api.Table) api.Table {
	t.Turned = !t.Turned
	return t
}

// swap exchanges 1 and 2, and all others stay; by isFive 5 is yes, all others are no.
var (
	swap   = api.Table{Pairs: []api.Pair{{From: number(1), To: number(2)}, {From: number(2), To: number(1)}}, Keep: true}
	isFive = api.Table{Pairs: []api.Pair{{From: number(5), To: yes}}, Def: no, Back: number(6)}
)

func TestOnce(t *testing.T) { // P15.1
	a, b, ab := exchanging("a"), exchanging("b"), exchanging("a/b")
	both := lens(a, b, rename("a", "b")) // two that come to one place, though such a lens fits nothing
	for _, c := range []struct {
		name string
		l    []api.Step
		want bool
	}{
		{"no steps", nil, true},
		{"one", lens(a), true},
		{"twice", lens(a, a), false},
		{"twice, otherwise", lens(a, converting("a", 1, 3, isFive)), false},
		{"there and back", lens(converting("a", 1, 3, isFive), converting("a", 3, 1, over(isFive))), false},
		{"two fields", lens(a, b), true},
		{"two fields, one twice", lens(a, b, a), false},
		{"what is below is another one", lens(a, ab), true},
		{"what is of its pattern is another one", lens(exchanging("c/*"), exchanging("c/d")), true},
		{"nothing, twice", lens(exchanging(""), exchanging("")), false},
		{"others between", lens(a, add(one("c")), toSet("a", number(2)), toReg("a", number(2)), a), false},
		{"a rename", lens(a, rename("a", "b"), b), false},
		{"a rename, and another one there", lens(a, rename("a", "b"), a), true},
		{"a rename of another one", lens(a, rename("b", "c"), a), false},
		{"a rename, and back", lens(a, rename("a", "b"), rename("b", "a"), a), false},
		{"a rename of what is above", lens(ab, rename("a", "c"), exchanging("c/b")), false},
		{"a rename of what is above, and another one there", lens(ab, rename("a", "c"), ab), true},
		{"a rename of what is below", lens(a, rename("a/b", "c"), a), false},
		{"a rename of what begins with the same bytes", lens(exchanging("aa"), rename("a", "b"), exchanging("aa")), false},
		{"a rename ahead", lens(rename("a", "b"), b, a), true},
		{"a hoist", lens(ab, hoist("a/b"), b), false},
		{"a hoist, and another one there", lens(ab, hoist("a/b"), ab), true},
		{"a hoist of what is above", lens(exchanging("a/b/*"), hoist("a/b"), exchanging("b/*")), false},
		{"a plunge", lens(b, plunge("b", "a"), ab), false},
		{"a plunge, and another one there", lens(b, plunge("b", "a"), b), true},
		{"a plunge of what is above", lens(exchanging("b/*"), plunge("b", "a"), exchanging("a/b/*")), false},
		{"a wrap", lens(a, wrap("a"), exchanging("a/*")), false},
		{"a wrap, and another one there", lens(a, wrap("a"), a), true},
		{"a wrap does not move what is below", lens(ab, wrap("a"), ab), false},
		{"a wrap does not wrap what is below", lens(ab, wrap("a"), exchanging("a/b/*")), true},
		{"a wrap does not move what is far below", lens(exchanging("a/*/*"), wrap("a"), exchanging("a/*/*")), false},
		{"a wrap moves Path with a segment * behind", lens(exchanging("a/*"), wrap("a"), exchanging("a/*/*")), false},
		{"a wrap leaves nothing there", lens(exchanging("a/*"), wrap("a"), exchanging("a/*")), true},
		{"a wrap of both", lens(a, exchanging("a/*"), wrap("a"), a, exchanging("c")), true},
		{"a wrap of both, and the first again", lens(a, exchanging("a/*"), wrap("a"), exchanging("a/*")), false},
		{"a wrap of both, and the second again", lens(a, exchanging("a/*"), wrap("a"), exchanging("a/*/*")), false},
		{"a wrap of another one", lens(a, wrap("b"), a), false},
		{"a wrap of nothing", lens(exchanging(""), wrap(""), exchanging("/*")), false},
		{"a head", lens(exchanging("a/*"), head("a"), a), false},
		{"a head, and another one there", lens(exchanging("a/*"), head("a"), exchanging("a/*")), true},
		{"a head does not move what is at Path", lens(a, head("a"), a), false},
		{"a head does not move what has a name", lens(ab, head("a"), ab), false},
		{"a head makes none of what has a name", lens(ab, head("a"), a), true},
		{"a head does not move what is far below", lens(exchanging("a/*/*"), head("a"), exchanging("a/*/*")), false},
		{"a head makes none of what is far below", lens(exchanging("a/*/b"), head("a"), ab), true},
		{"a head of both", lens(a, exchanging("a/*"), head("a"), exchanging("a/*")), true},
		{"a head of both, and again", lens(a, exchanging("a/*"), head("a"), a), false},
		{"a wrap, and a head", lens(a, wrap("a"), head("a"), a), false},
		{"one that goes", lens(a, remove(one("a")), a), true},
		{"one that goes, and comes again, twice", lens(a, remove(one("a")), add(one("a")), a, a), false},
		{"another one that goes", lens(a, remove(one("b")), a), false},
		{"one above that goes", lens(ab, remove(one("a")), ab), false},
		{"one below that goes", lens(a, remove(one("a/b")), a), false},
		{"one that goes ahead", lens(remove(one("a")), a, a), false},
		{"one that goes, and was another one", lens(a, remove(ctr("a")), a), true}, // its Path alone counts
		{"one that goes by a step with another Path", lens(a, api.Step{Kind: api.StepRemove, Path: "b", Field: one("a")}, a), true},
		{"one that does not go, though the step's Path is its", lens(a, api.Step{Kind: api.StepRemove, Path: "a", Field: one("b")}, a), false},
		{"one that goes, renamed", lens(a, rename("a", "b"), remove(one("b")), b), true},
		{"one that does not go, renamed", lens(a, rename("a", "b"), remove(one("a")), b), false},
		{"one that comes", lens(a, add(one("a")), a), false},
		{"two at one place", append(slices.Clone(both), b), false},
		{"two at one place, which go", append(slices.Clone(both), remove(one("b")), b), true},
		{"a step of no kind", lens(a, api.Step{Path: "a", Name: "b"}, a), false},
		{"a step of no kind does not convert", lens(a, api.Step{Kind: 26, Path: "a"}, api.Step{Kind: 11, Path: "a"}, api.Step{Kind: -6, Path: "a"}), true},
		{"more than MaxSteps", slices.Repeat(lens(a, rename("a", "b"), remove(one("b"))), 10), true},
		{"more than MaxSteps, the last one a second one", append(slices.Repeat(lens(rename("a", "b")), 20), b, b), false},
	} {
		if got := Once(c.l); got != c.want {
			t.Errorf("%s: %t", c.name, got)
		}
	}
}

// plainOnce tells P15.1 by its words.
func plainOnce(l []api.Step) bool {
	var kept []string
	for _, x := range l {
		var next []string
		for _, p := range kept {
			switch x.Kind {
			case 6, 7:
				if p == x.Path || p == x.Path+"/*" {
					p = step.Move(x, p)
				}
			case 5:
				if p == x.Field.Path {
					continue
				}
			default:
				p = step.Move(x, p)
			}
			next = append(next, p)
		}
		kept = next
		if x.Kind == 10 {
			if slices.Contains(kept, x.Path) {
				return false
			}
			kept = append(kept, x.Path)
		}
	}
	return true
}

func TestOnceOfAny(t *testing.T) { // P15.1: all lenses of up to four of these steps, and many longer ones
	l := lens(exchanging("a"), exchanging("a/*"), exchanging("b/a"), rename("a", "b"), rename("b", "a"), rename("b/a", "c"), hoist("b/a"), plunge("a", "b"),
		wrap("a"), head("a"), wrap("b/a"), remove(one("a")), remove(one("b/*")), add(one("a")), toSet("a", number(1)), api.Step{Kind: 26, Path: "a"})
	told := map[bool]int{}
	hold := func(l []api.Step) {
		got := Once(l)
		if got != plainOnce(l) {
			t.Fatalf("Once of %+v: %t", l, got)
		}
		told[got]++
	}
	every(l, 4, hold)
	r := rand.New(rand.NewSource(1))
	for range 60000 {
		some := make([]api.Step, r.Intn(15))
		for k := range some {
			some[k] = pick(r, l...)
		}
		hold(some)
	}
	if told[true] < 1000 || told[false] < 1000 {
		t.Errorf("too few to tell: %v", told)
	}
}

// every hands all lists of at most that many of l to hold, and what it is handed is not kept.
func every(l []api.Step, most int, hold func([]api.Step)) {
	var room []api.Step
	var longer func()
	longer = func() {
		hold(room)
		if len(room) == most {
			return
		}
		for _, x := range l {
			room = append(room, x)
			longer()
			room = room[:len(room)-1]
		}
	}
	longer()
}

// many is a schema of n registers below that path.
func many(p string, n int) api.Schema {
	var s api.Schema
	for k := range n {
		s.Fields = append(s.Fields, one(p+"/"+string(rune('a'+k))))
	}
	return s
}

// longLens is a lens of n steps, one behind the other, that adds registers.
func longLens(n int) []api.Step {
	var l []api.Step
	for _, f := range many("z", n).Fields {
		l = append(l, add(f))
	}
	return l
}

func TestCheck(t *testing.T) { // P15.2, P15.9
	full := many("a", api.MaxFields)
	first := ones("a", "b/c")
	twelve := slices.Concat(longLens(6), lens(rename("a", "d"), exchanging("d"), wrap("d"), hoist("b/c"), toSet("c", number(1)), remove(set("c", 1))))
	twelfth := fields(reg("d/*", number(2)), one("z/a"), one("z/b"), one("z/c"), one("z/d"), one("z/e"), one("z/f"))
	wrong := remove(one("x"))
	for _, c := range []struct {
		name  string
		s     api.Schema
		l     []api.Step
		want  api.Schema
		place int
		err   api.Errno
	}{
		{"no steps", first, nil, first, 0, api.OK}, // the chapter's example
		{"no steps, of the empty schema", fields(), nil, fields(), 0, api.OK},
		{"no steps, of a full schema", full, lens(), full, 0, api.OK},
		{"no steps, of what is no schema", ones("b", "a"), nil, fields(), 0, api.ErrLens},
		{"no steps, of too many fields", many("a", api.MaxFields+1), nil, fields(), 0, api.ErrLens},
		{"no steps, of a field that is none", fields(api.Field{}), nil, fields(), 0, api.ErrLens},
		{"one step", first, lens(rename("a", "d")), ones("b/c", "d"), 1, api.OK},
		{"each of what the one ahead made", first, lens(rename("a", "d"), rename("b", "a"), hoist("a/c")), ones("c", "d"), 3, api.OK},
		{"there and back", first, lens(rename("a", "d"), rename("d", "a")), first, 2, api.OK},
		{"of all kinds", ones("a"), lens(add(one("b")), plunge("a", "c"), hoist("c/a"), wrap("a"), head("a"), toSet("b", number(1)), toReg("b", number(5)), converting("b", 1, 3, isFive), remove(reg("b", yes)), rename("a", "e")), ones("e"), 10, api.OK},
		{"of MaxSteps", first, twelve, twelfth, api.MaxSteps, api.OK},
		{"of more", first, append(slices.Clone(twelve), wrong), fields(), 13, api.ErrLens},
		{"of more, that all fit", first, longLens(13), fields(), 13, api.ErrLens},
		{"of more, of which one does not fit", first, append(lens(wrong), longLens(20)...), fields(), 21, api.ErrLens},
		{"of more, of what is no schema", ones("b", "a"), longLens(13), fields(), 13, api.ErrLens},
		{"of no schema", ones("b", "a"), lens(rename("a", "d")), fields(), 0, api.ErrLens},
		{"of no schema, which it would mend", ones("a", "a"), lens(remove(one("a"))), fields(), 0, api.ErrLens},
		{"of no schema, of which the second step does not fit", ones("b", "a"), lens(rename("a", "d"), wrong), fields(), 0, api.ErrLens},
		{"the first one does not fit", first, lens(wrong, rename("a", "d")), fields(), 0, api.ErrLens},
		{"the second one does not", first, lens(rename("a", "d"), wrong, rename("d", "a")), fields(), 1, api.ErrLens},
		{"the last one does not", first, append(longLens(11), wrong), fields(), 11, api.ErrLens},
		{"two do not", first, lens(rename("a", "d"), wrong, wrong, rename("d", "a")), fields(), 1, api.ErrLens},
		{"what fits the schema, but not what comes", first, lens(rename("a", "d"), rename("a", "e")), fields(), 1, api.ErrLens},
		{"what would fit in another order", first, lens(rename("d", "e"), rename("a", "d")), fields(), 0, api.ErrLens},
		{"a step of no kind", first, lens(rename("a", "d"), api.Step{}), fields(), 1, api.ErrLens},
		{"too many fields", full, lens(rename("a", "d"), add(one("b"))), fields(), 1, api.ErrLens},
		{"not Once", first, lens(exchanging("a"), exchanging("a")), fields(), 2, api.ErrLens},
		{"not Once, though all steps fit", first, lens(exchanging("a"), rename("a", "d"), exchanging("d"), rename("d", "a")), fields(), 4, api.ErrLens},
		{"not Once, and the first does not fit", first, lens(wrong, exchanging("a"), exchanging("a")), fields(), 3, api.ErrLens},
		{"not Once, of what is not there", first, lens(exchanging("x"), exchanging("x")), fields(), 2, api.ErrLens},
		{"not Once, of what is no schema", ones("b", "a"), lens(exchanging("a"), exchanging("a"), wrong), fields(), 3, api.ErrLens},
		{"Once, since another one came", first, lens(exchanging("a"), remove(reg("a", number(2))), add(one("a")), exchanging("a")), fields(reg("a", number(2)), one("b/c")), 4, api.OK},
		{"Once, since another one is there", first, lens(exchanging("a"), rename("a", "d"), hoist("b/c"), rename("c", "a"), exchanging("a")), fields(reg("a", number(2)), reg("d", number(2))), 5, api.OK},
	} {
		got, place, err := Check(c.s, c.l)
		if !schema.Same(got, c.want) || place != c.place || err != c.err {
			t.Errorf("%s:\n%s%d, %d, want\n%s%d, %d", c.name, schema.Text(got), place, err, schema.Text(c.want), c.place, c.err)
		}
		if err != api.OK && got.Fields != nil {
			t.Errorf("%s: %+v beside an error", c.name, got)
		}
	}
}

// plainCheck tells P15.2 by its words.
func plainCheck(s api.Schema, l []api.Step) (api.Schema, int, api.Errno) {
	if len(l) > 12 || !plainOnce(l) {
		return api.Schema{}, len(l), api.ErrLens
	}
	for k, x := range l {
		comes, err := step.Check(s, x)
		if err != api.OK {
			return api.Schema{}, k, err
		}
		s = comes
	}
	if !schema.Right(s) {
		return api.Schema{}, len(l), api.ErrLens
	}
	return s, len(l), api.OK
}

// checked holds Check, and what leads back, against their words, and tells whether the lens fits.
func checked(t *testing.T, s api.Schema, l []api.Step) bool {
	t.Helper()
	got, place, err := Check(s, l)
	if want, wantPlace, wantErr := plainCheck(s, l); !schema.Same(got, want) || place != wantPlace || err != wantErr {
		t.Fatalf("Check of\n%sby %+v:\n%s%d, %d, want\n%s%d, %d", schema.Text(s), l, schema.Text(got), place, err, schema.Text(want), wantPlace, wantErr)
	}
	if err != api.OK {
		firstWrong(t, s, l, place)
		return false
	}
	leadsBack(t, s, l, got)
	return true
}

// firstWrong holds P15.9: up to the place that is told all fits, but if the lens itself may not be one.
func firstWrong(t *testing.T, s api.Schema, l []api.Step, place int) {
	t.Helper()
	if place == len(l) {
		if len(l) <= 12 && plainOnce(l) && schema.Right(s) {
			t.Fatalf("no step of %+v is told not to fit\n%s", l, schema.Text(s))
		}
		return
	}
	comes, n, err := Check(s, l[:place])
	if place > 0 && (n != place || err != api.OK) {
		t.Fatalf("%+v is told of\n%s, but the first %d steps: %d, %d", l, schema.Text(s), place, n, err)
	}
	if _, err := step.Check(comes, l[place]); place > 0 && err == api.OK {
		t.Fatalf("%+v is told not to fit\n%s", l[place], schema.Text(comes))
	}
}

// leadsBack holds P15.7: the lens turned is one, and leads from what comes back to s.
func leadsBack(t *testing.T, s api.Schema, l []api.Step, comes api.Schema) {
	t.Helper()
	back := Turn(l)
	if got, n, err := Check(comes, back); !schema.Same(got, s) || n != len(l) || err != api.OK {
		t.Fatalf("%+v, turned: %+v\n%s%d, %d, want\n%s", l, back, schema.Text(got), n, err, schema.Text(s))
	}
	if again := Turn(back); !Same(again, l) {
		t.Fatalf("%+v, twice turned: %+v", l, again)
	}
}

func TestCheckOfAll(t *testing.T) { // P15.2, P15.7, P15.9: all lenses of up to four of these steps
	l := lens(rename("a", "b"), rename("b", "a"), hoist("b/a"), plunge("a", "b"), wrap("a"), head("a"), toSet("a", number(1)), toReg("a", number(1)),
		exchanging("a"), exchanging("a/*"), exchanging("b"), add(one("a")), remove(one("a")))
	fit := map[int]int{}
	for _, s := range []api.Schema{{}, ones("a"), ones("b"), ones("a", "b"), ones("a/*", "b"), ones("b/a"), fields(set("a", 1)), ones("b", "a")} {
		every(l, 4, func(l []api.Step) {
			if checked(t, s, l) {
				fit[len(l)]++
			}
		})
	}
	for n := 1; n <= 4; n++ {
		if fit[n] < 20 {
			t.Errorf("of %d steps fit %d: too few to tell", n, fit[n])
		}
	}
}

// pick is one of l.
func pick[thing any](r *rand.Rand, l ...thing) thing {
	return l[r.Intn(len(l))]
}

// someValue is a value of that kind.
func someValue(r *rand.Rand, kind int) api.Value {
	switch kind {
	case api.ValText:
		return text(pick(r, "", "on", "off"))
	case api.ValBool:
		return pick(r, no, yes)
	}
	return number(pick(r, 0, 1, 2, 5, 6))
}

// someField is a field.
func someField(r *rand.Rand, p string) api.Field {
	typ := 1 + r.Intn(3)
	return pick(r, reg(p, someValue(r, typ)), reg(p, someValue(r, typ)), set(p, typ), ctr(p))
}

// someSchema is a schema of some of these patterns, which part from one another.
func someSchema(r *rand.Rand) api.Schema {
	var l []api.Field
	for _, p := range []string{"a", "b", "c/a", "c/b/a", "d/*", "e/*/a", "e/*/b/a", "f/a/*"} {
		if r.Intn(2) == 0 {
			l = append(l, someField(r, p))
		}
	}
	return schema.Of(l...)
}

// someTable is a table by which values of the kind from become such of the kind to.
func someTable(r *rand.Rand, from, to int) api.Table {
	if from == to && r.Intn(3) > 0 {
		v, w := someValue(r, from), someValue(r, from)
		if v == w {
			return api.Table{Keep: true}
		}
		return api.Table{Keep: true, Pairs: []api.Pair{{From: v, To: w}, {From: w, To: v}}}
	}
	v, w := someValue(r, from), someValue(r, to)
	t := api.Table{Pairs: []api.Pair{{From: v, To: w}}, Def: someValue(r, to), Back: someValue(r, from)}
	if r.Intn(2) == 0 {
		return t
	}
	return api.Table{Pairs: []api.Pair{{From: w, To: v}}, Def: someValue(r, from), Back: someValue(r, to), Turned: true}
}

// someStep is a step that may well fit s, and that has no parts but its own.
func someStep(r *rand.Rand, s api.Schema) api.Step {
	f := someField(r, pick(r, "a", "b", "c/a", "x"))
	if len(s.Fields) > 0 && r.Intn(8) > 0 {
		f = pick(r, s.Fields...)
	}
	segs := path.Split(f.Path)
	top := path.Join(segs[:1+r.Intn(len(segs))])
	name := pick(r, "a", "b", "c", "x", "y", "z")
	switch kind := 1 + r.Intn(14); kind {
	case api.StepRename, api.StepPlunge:
		return api.Step{Kind: kind, Path: top, Name: name}
	case api.StepHoist:
		return hoist(top)
	case api.StepAdd:
		return add(someField(r, pick(r, "a", "b", "h", "h/*", "c/c", "e/*/c", f.Path)))
	case api.StepRemove:
		return remove(f)
	case api.StepWrap:
		return wrap(f.Path)
	case api.StepHead:
		return head(strings.TrimSuffix(f.Path, "/*"))
	case api.StepToSet:
		return toSet(f.Path, f.Def)
	case api.StepToReg:
		return toReg(f.Path, someValue(r, f.Type))
	}
	to := 1 + r.Intn(3) // fields are converted often, so that some are twice
	return converting(f.Path, f.Type, to, someTable(r, f.Type, to))
}

// someLens is a lens of at most that many steps, most of which fit, and what they make of s.
func someLens(r *rand.Rand, s api.Schema, most int) ([]api.Step, api.Schema) {
	var l []api.Step
	for range r.Intn(most + 1) {
		for range 8 {
			x := someStep(r, s)
			if comes, err := step.Check(s, x); err == api.OK {
				l, s = append(l, x), comes
				break
			} else if r.Intn(150) == 0 {
				return append(l, x, x), s
			}
		}
	}
	return l, s
}

func TestCheckOfAny(t *testing.T) { // P15.2, P15.7, P15.9: longer lenses of all kinds of steps, held against the words
	r := rand.New(rand.NewSource(2))
	fit, other, kinds, long := 0, 0, map[int]int{}, 0
	for range 12000 {
		s := someSchema(r)
		l, _ := someLens(r, s, 14)
		if !checked(t, s, l) {
			other++
			continue
		}
		fit++
		long = max(long, len(l))
		for _, x := range l {
			kinds[x.Kind]++
		}
	}
	if fit < 2000 || other < 1000 || long < api.MaxSteps {
		t.Errorf("%d fit, of up to %d steps, and %d do not: too few to tell", fit, long, other)
	}
	for kind := api.StepRename; kind <= api.StepConvert; kind++ {
		if kinds[kind] < 200 {
			t.Errorf("of the kind %d fit %d: too few to tell", kind, kinds[kind])
		}
	}
}

// twice tells whether one field is converted twice by steps that fit s, of which each field is followed by itself.
func twice(t *testing.T, s api.Schema, l []api.Step) bool {
	t.Helper()
	times := map[string]int{} // by where the field is now
	for _, f := range s.Fields {
		times[f.Path] = 0
	}
	for _, x := range l {
		next := map[string]int{}
		for p, n := range times {
			switch {
			case x.Kind == api.StepWrap && p == x.Path:
				p += "/*"
			case x.Kind == api.StepHead && p == x.Path+"/*":
				p = x.Path
			case x.Kind >= api.StepRename && x.Kind <= api.StepPlunge:
				p = step.Move(x, p)
			case x.Kind == api.StepConvert && p == x.Path:
				n++
			case x.Kind == api.StepRemove && p == x.Field.Path:
				continue
			}
			next[p] = n
		}
		if x.Kind == api.StepAdd {
			next[x.Field.Path] = 0
		}
		times = next
		s, _ = step.Check(s, x)
		for _, f := range s.Fields {
			if _, ok := times[f.Path]; !ok || len(times) != len(s.Fields) {
				t.Fatalf("behind %+v there is %+v, not\n%s", x, times, schema.Text(s))
			}
		}
		for _, n := range times {
			if n > 1 {
				return true
			}
		}
	}
	return false
}

func TestOnceOfWhatFits(t *testing.T) { // P15.1: no field is converted twice
	r := rand.New(rand.NewSource(3))
	told := map[bool]int{}
	for range 20000 {
		s := someSchema(r)
		var l []api.Step
		comes := s
		for range r.Intn(20) {
			x := someStep(r, comes)
			if to, err := step.Check(comes, x); err == api.OK {
				l, comes = append(l, x), to
			}
		}
		got := Once(l)
		if got == twice(t, s, l) {
			t.Fatalf("Once of %+v, of\n%s: %t", l, schema.Text(s), got)
		}
		told[got]++
	}
	if told[true] < 2000 || told[false] < 2000 {
		t.Errorf("too few to tell: %v", told)
	}
}

func TestTwoLenses(t *testing.T) { // P15.8
	r := rand.New(rand.NewSource(4))
	are, tooMany, notOnce, parted := 0, 0, 0, 0
	for range 12000 {
		s := someSchema(r)
		a, between := someLens(r, s, 8)
		b, comes := someLens(r, between, 8)
		both := slices.Concat(a, b)
		got, n, err := Check(s, both)
		_, _, errA := Check(s, a)
		_, _, errB := Check(between, b)
		switch {
		case err == api.OK: // then each is one, too
			are++
			if errA != api.OK || errB != api.OK || !schema.Same(got, comes) || n != len(a)+len(b) {
				t.Fatalf("%+v and %+v are told to be one of\n%s%d, %d", a, b, schema.Text(s), errA, errB)
			}
		case errA != api.OK || errB != api.OK:
			parted++
		case len(both) > api.MaxSteps:
			tooMany++
		case !Once(both):
			notOnce++
		default:
			t.Fatalf("%+v and %+v are none of\n%s%d, %d", a, b, schema.Text(s), n, err)
		}
	}
	if are < 1000 || tooMany < 200 || notOnce < 200 || parted < 200 {
		t.Errorf("%d are, %d have too many steps, %d convert twice, %d are none before: too few to tell", are, tooMany, notOnce, parted)
	}
}

func TestTurn(t *testing.T) { // P15.3
	l := lens(rename("a", "b"), hoist("b/c"), plunge("c", "d"), add(one("e")), remove(ctr("f")), wrap("g"), head("h"), toSet("i", yes), toReg("j", no), converting("k", 1, 3, isFive), api.Step{Kind: 11, Path: "l"})
	want := lens(api.Step{Kind: 11, Path: "l"}, converting("k", 3, 1, over(isFive)), toSet("j", no), toReg("i", yes), wrap("h"), head("g"), add(ctr("f")), remove(one("e")), hoist("d/c"), plunge("c", "b"), rename("b", "a"))
	for n := range len(l) + 1 {
		if got := Turn(l[:n]); len(got) != n || n > 0 && !reflect.DeepEqual(got, want[len(l)-n:]) {
			t.Errorf("Turn of %+v: %+v", l[:n], got)
		}
	}
	if got := Turn(nil); len(got) != 0 {
		t.Errorf("Turn of no steps: %+v", got)
	}
	long := slices.Repeat(l, 3) // of more than MaxSteps, too
	if got := Turn(long); !reflect.DeepEqual(got, slices.Repeat(want, 3)) {
		t.Errorf("Turn of %+v: %+v", long, got)
	}
}

// zeroStep is a step that is all zero, as bytes, and hoistAX the hoist of a/x.
const (
	noParts  = "\x00\x01\x00\x00\x00\x00\x00\x00\x00\x00\x00\x00\x00" // what stands behind a Path
	zeroStep = "\x00\x00" + noParts
	hoistAX  = "\x02\x03a/x" + noParts
)

func TestPut(t *testing.T) { // P15.4
	for _, c := range []struct {
		l    []api.Step
		want string
	}{
		{nil, "\x00"},
		{lens(), "\x00"},
		{lens(api.Step{}), "\x01" + zeroStep},
		{lens(hoist("a/x")), "\x01" + hoistAX},
		{lens(hoist("a/x"), api.Step{}, hoist("a/x")), "\x03" + hoistAX + zeroStep + hoistAX}, // in order
		{slices.Repeat(lens(hoist("a/x")), 12), "\x0c" + strings.Repeat(hoistAX, 12)},
		{slices.Repeat(lens(hoist("a/x")), 13), "\x0d" + strings.Repeat(hoistAX, 13)}, // what may be no lens is put, too
		{slices.Repeat(lens(api.Step{}), 128), "\x80\x01" + strings.Repeat(zeroStep, 128)},
		{lens(api.Step{Kind: -1}), "\x01\x0f" + zeroStep[1:]},
	} {
		for _, b := range []string{"", "b", "\x80\xff"} {
			if got := Put(b, c.l); got != b+c.want {
				t.Errorf("Put behind %x of %+v: %x, want %x", b, c.l, got, b+c.want)
			}
		}
	}
}

func TestTake(t *testing.T) { // P15.5
	cut := hoistAX[:len(hoistAX)-1]
	for _, c := range []struct {
		b    string
		l    []api.Step
		rest string
		err  api.Errno
	}{
		{"\x00", nil, "", api.OK},
		{"\x00\x01", nil, "\x01", api.OK},
		{"\x01" + zeroStep, lens(api.Step{}), "", api.OK},
		{"\x01" + hoistAX + "rest", lens(hoist("a/x")), "rest", api.OK},
		{"\x01" + hoistAX + hoistAX, lens(hoist("a/x")), hoistAX, api.OK}, // as many as there are told to be
		{"\x02" + hoistAX + zeroStep + "\x80", lens(hoist("a/x"), api.Step{}), "\x80", api.OK},
		{"\x0c" + strings.Repeat(hoistAX, 12), slices.Repeat(lens(hoist("a/x")), 12), "", api.OK},
		{"\x0c" + strings.Repeat(hoistAX, 13), slices.Repeat(lens(hoist("a/x")), 12), hoistAX, api.OK},
		{Put("", lens(exchanging("a"), exchanging("a"))), lens(exchanging("a"), exchanging("a")), "", api.OK}, // whether a field is converted twice is not asked
		{"", nil, "", api.ErrShort},                                                                           // in the number
		{"\x80", nil, "", api.ErrShort},
		{"\x81\x00", nil, "", api.ErrForm},
		{"\x8d\x00", nil, "", api.ErrForm},
		{strings.Repeat("\x80", 9) + "\x02", nil, "", api.ErrLong},
		{"\x0d", nil, "", api.ErrLong}, // told at once, whatever follows
		{"\x0d\x0b", nil, "", api.ErrLong},
		{"\x0d" + strings.Repeat(hoistAX, 13), nil, "", api.ErrLong},
		{"\x0d" + strings.Repeat(hoistAX, 12), nil, "", api.ErrLong},
		{"\x7f", nil, "", api.ErrLong},
		{"\x80\x01", nil, "", api.ErrLong},
		{varint.Put("", 1<<32+1) + hoistAX, nil, "", api.ErrLong},
		{varint.Put("", 1<<63) + hoistAX, nil, "", api.ErrLong},
		{varint.Put("", math.MaxUint64), nil, "", api.ErrLong},
		{"\x01", nil, "", api.ErrShort}, // in a step
		{"\x01" + cut, nil, "", api.ErrShort},
		{"\x02" + hoistAX, nil, "", api.ErrShort},
		{"\x02" + hoistAX + cut, nil, "", api.ErrShort},
		{"\x0c" + strings.Repeat(hoistAX, 11), nil, "", api.ErrShort},
		{"\x01\x0b", nil, "", api.ErrForm},
		{"\x01\x0b" + zeroStep[1:], nil, "", api.ErrForm},
		{"\x02" + hoistAX + "\x0b" + zeroStep[1:], nil, "", api.ErrForm},
		{"\x01\x00\x67", nil, "", api.ErrLong},
		{"\x02\x0b" + zeroStep[1:] + "\x00\x67", nil, "", api.ErrForm}, // the first error
		{"\x02\x00\x67" + "\x0b", nil, "", api.ErrLong},
		{"\x03" + hoistAX + "\x00\x67", nil, "", api.ErrLong},
	} {
		got, rest, err := Take(c.b)
		if !Same(got, c.l) || rest != c.rest || err != c.err {
			t.Errorf("Take of %x: %+v, %x, %d, want %+v, %x, %d", c.b, got, rest, err, c.l, c.rest, c.err)
		}
		if err != api.OK && got != nil {
			t.Errorf("Take of %x: %+v beside an error", c.b, got)
		}
	}
}

// drawn is n lenses, of up to MaxSteps steps.
func drawn(seed int64, n int) [][]api.Step {
	r := rand.New(rand.NewSource(seed))
	var all [][]api.Step
	for range n {
		l, _ := someLens(r, someSchema(r), 10)
		all = append(all, l)
	}
	return all
}

// tails: what may follow a lens; some look like parts of one.
var tails = []string{"", "a", "\x00", "\x01\x02", "\x80", hoistAX}

func TestWhatIsPutIsTaken(t *testing.T) { // P15.4, P15.5
	for _, l := range drawn(5, 1500) {
		b := Put("", l)
		for _, tail := range tails {
			got, rest, err := Take(b + tail)
			if err != api.OK || rest != tail || !Same(got, l) {
				t.Fatalf("Take of what is put of %+v and %x: %+v, %x, %d", l, tail, got, rest, err)
			}
		}
		for k := range len(b) {
			if got, rest, err := Take(b[:k]); got != nil || rest != "" || err != api.ErrShort {
				t.Fatalf("Take of the first %d bytes of %x: %+v, %x, %d", k, b, got, rest, err)
			}
		}
	}
}

// plainTake tells P15.5 by its words, one behind another.
func plainTake(b string) ([]api.Step, string, api.Errno) {
	n, rest, err := varint.Take(b)
	if err != api.OK {
		return nil, "", err
	}
	if n > 12 {
		return nil, "", api.ErrLong
	}
	var l []api.Step
	for len(l) < int(n) {
		x, behind, err := step.Take(rest)
		if err != api.OK {
			return nil, "", err
		}
		l, rest = append(l, x), behind
	}
	return l, rest, api.OK
}

func TestTakeOfAnyBytes(t *testing.T) { // P15.5, R1, R6: held against its words; what is taken is put as just these bytes
	r := rand.New(rand.NewSource(6))
	l := []string{""}
	for a := range 256 {
		for b := range 256 {
			l = append(l, string([]byte{byte(a), byte(b)}), string([]byte{byte(a%15) + 1, byte(b), 0, 0, byte(a)}))
		}
	}
	for _, some := range drawn(7, 20000) {
		b := []byte(Put("", some) + pick(r, tails...))
		for range r.Intn(3) {
			k := r.Intn(len(b))
			b[k] = pick(r, byte(r.Intn(256)), byte(r.Intn(5)), b[k]+1, 0x80, 0)
		}
		if r.Intn(3) == 0 {
			b = b[:r.Intn(len(b)+1)]
		}
		l = append(l, string(b))
	}
	told := map[api.Errno]int{}
	for _, b := range l {
		got, rest, err := Take(b)
		want, wantRest, wantErr := plainTake(b)
		if !reflect.DeepEqual(got, want) || rest != wantRest || err != wantErr {
			t.Fatalf("Take of %x: %+v, %x, %d, want %+v, %x, %d", b, got, rest, err, want, wantRest, wantErr)
		}
		if err == api.OK && Put("", got)+rest != b {
			t.Fatalf("%x is taken, and put as %x", b, Put("", got)+rest)
		}
		told[err]++
	}
	for _, err := range []api.Errno{api.OK, api.ErrShort, api.ErrForm, api.ErrLong} {
		if told[err] < 100 {
			t.Errorf("%d is told %d times: too few to tell", err, told[err])
		}
	}
	if len(told) != 4 {
		t.Errorf("other errors are told: %v", told)
	}
}

func TestSame(t *testing.T) { // P15.6
	a, b := rename("a", "b"), exchanging("a")
	turned := b
	turned.Table.Turned = true
	other := b
	other.Table.Pairs = b.Table.Pairs[:1]
	l := [][]api.Step{
		nil, lens(a), lens(b), lens(a, a), lens(a, b), lens(b, a), lens(b, b), lens(a, b, a), lens(a, a, b), lens(api.Step{}),
		lens(turned), lens(other), lens(a, turned), lens(rename("a", "c")), lens(a, b, api.Step{}), slices.Repeat(lens(a), 13), slices.Repeat(lens(a), 14),
	}
	for j, one := range l {
		for k, two := range l {
			copied := slices.Clone(two)
			for k := range copied {
				copied[k].Table.Pairs = slices.Clone(copied[k].Table.Pairs)
			}
			if Same(one, copied) != (j == k) {
				t.Errorf("Same of %+v and %+v: %t", one, copied, j != k)
			}
		}
	}
	if !Same(nil, lens()) || !Same([]api.Step{}, nil) {
		t.Error("no steps and none are not the same")
	}
}

// roomy is l, whose list and whose tables' pairs have room behind their ends, in which something stands.
func roomy(l []api.Step) []api.Step {
	var all []api.Step
	for _, x := range append(slices.Clone(l), rename("x", "y"), exchanging("z")) {
		pairs := append(slices.Clone(x.Table.Pairs), swap.Pairs...)
		x.Table.Pairs = pairs[:len(x.Table.Pairs)]
		all = append(all, x)
	}
	return all[:len(l)]
}

// whole is all that stands in l and in the room behind its ends, as it is told.
func whole(s api.Schema, l []api.Step) string {
	told := fmt.Sprintf("%+v", s.Fields[:cap(s.Fields)])
	for _, x := range l[:cap(l)] {
		told += fmt.Sprintf("%+v %+v", x, x.Table.Pairs[:cap(x.Table.Pairs)])
	}
	return told
}

func TestArgumentsAreNotChanged(t *testing.T) { // R3: nor the room behind their ends, and answers are new memory
	r := rand.New(rand.NewSource(8))
	for range 3000 {
		s := someSchema(r)
		some, _ := someLens(r, s, 14)
		l := roomy(some)
		s.Fields = append(slices.Clone(s.Fields), one("z"), one("y"))[:len(s.Fields)]
		had := whole(s, l)
		got, place, err := Check(s, l)
		turned := Turn(l)
		once, same, b := Once(l), Same(l, turned), Put("b", l)
		if whole(s, l) != had {
			t.Fatalf("%s was changed: %s", had, whole(s, l))
		}
		if len(l) > 0 { // without steps it is the schema itself that is told
			for k := range got.Fields[:cap(got.Fields)] {
				got.Fields[:cap(got.Fields)][k] = api.Field{Path: "spoilt"}
			}
		}
		for k, x := range turned[:len(l)] {
			if x.Kind == api.StepConvert { // of other kinds the table is handed on just as it is
				for k := range x.Table.Pairs {
					x.Table.Pairs[k] = api.Pair{From: text("spoilt")}
				}
			}
			turned[k] = api.Step{Path: "spoilt"}
		}
		if whole(s, l) != had {
			t.Fatalf("what %+v makes shares memory with what was handed in", l)
		}
		again, placeAgain, errAgain := Check(s, l)
		if want, _, _ := plainCheck(s, l); !schema.Same(again, want) || placeAgain != place || errAgain != err || Once(l) != once || Same(l, Turn(l)) != same || Put("b", l) != b {
			t.Fatalf("what is answered of %+v and %+v is kept", s, l)
		}
		takenIsNew(t, b[1:])
	}
}

// takenIsNew holds that what is taken of b shares no memory with what is taken of it again.
func takenIsNew(t *testing.T, b string) {
	t.Helper()
	first, _, _ := Take(b)
	second, _, _ := Take(b)
	for k, x := range first {
		for k := range x.Table.Pairs {
			x.Table.Pairs[k] = api.Pair{From: text("spoilt")}
		}
		first[k] = api.Step{Path: "spoilt"}
	}
	if want, _, _ := plainTake(b); !Same(second, want) {
		t.Fatalf("what is taken of %x is kept", b)
	}
}

func TestMany(t *testing.T) { // R1: of many steps, long paths and many fields
	const n = 1 << 16
	l := make([]api.Step, n)
	for k := range l {
		l[k] = exchanging(fmt.Sprintf("a/%d", k))
	}
	if !Once(l) {
		t.Error("many fields, each converted once, are not Once")
	}
	l[n-1] = l[0]
	if Once(l) {
		t.Error("the first field again is Once")
	}
	if got, place, err := Check(ones("a/a"), l); got.Fields != nil || place != n || err != api.ErrLens {
		t.Errorf("Check by many steps: %+v, %d, %d", got, place, err)
	}
	if back := Turn(l); len(back) != n || !Same(Turn(back), l) || Same(back, l) {
		t.Errorf("Turn of many steps: %d", len(back))
	}
	if got, rest, err := Take(Put("", l)); got != nil || rest != "" || err != api.ErrLong {
		t.Errorf("Take of many steps: %+v, %x, %d", got, rest, err)
	}
	long := strings.Repeat("a/", n) + "a"
	deep := lens(exchanging(long), rename(long, "b"), wrap(strings.TrimSuffix(long, "a")+"b"), head(long), plunge("a", long), exchanging(long))
	if got, place, err := Check(ones("a"), deep); got.Fields != nil || place != 0 || err != api.ErrLens {
		t.Errorf("Check by long paths: %+v, %d, %d", got, place, err)
	}
	if !Once(deep) || Once(append(deep, exchanging(long))) {
		t.Error("long paths are told otherwise")
	}
	wide := many("a", 26)
	for range n {
		wide.Fields = append(wide.Fields, one("b"))
	}
	if got, place, err := Check(wide, lens(rename("a", "c"))); got.Fields != nil || place != 0 || err != api.ErrLens {
		t.Errorf("Check of many fields: %+v, %d, %d", got, place, err)
	}
}

func TestTheSameIsToldAgain(t *testing.T) { // R4
	tell := func() string {
		r := rand.New(rand.NewSource(9))
		var b strings.Builder
		for range 1500 {
			s := someSchema(r)
			l, _ := someLens(r, s, 14)
			got, place, err := Check(s, l)
			taken, rest, takeErr := Take(Put("", l) + "rest")
			fmt.Fprintln(&b, got, place, err, Once(l), Turn(l), Put("b", l), taken, rest, takeErr)
		}
		return b.String()
	}
	if tell() != tell() {
		t.Error("not the same")
	}
}
