package table

import (
	"fmt"
	"math"
	"math/rand"
	"reflect"
	"slices"
	"strings"
	"testing"

	"lorgnette/api"
	"lorgnette/val"
	"lorgnette/varint"
)

// number, text and truth are values, shortly.
func number(n int) api.Value  { return api.Value{Kind: api.ValInt, Int: n} }
func text(s string) api.Value { return api.Value{Kind: api.ValText, Text: s} }
func truth(n int) api.Value   { return api.Value{Kind: api.ValBool, Int: n} }

// none is no value; no and yes are both truths.
var none, no, yes = api.Value{}, truth(0), truth(1)

// pairs is the pairs of these values, two by two.
func pairs(l ...api.Value) []api.Pair {
	var all []api.Pair
	for k := 0; k < len(l); k += 2 {
		all = append(all, api.Pair{From: l[k], To: l[k+1]})
	}
	return all
}

// numbers is the pairs of these numbers, two by two.
func numbers(l ...int) []api.Pair {
	var all []api.Pair
	for k := 0; k < len(l); k += 2 {
		all = append(all, api.Pair{From: number(l[k]), To: number(l[k+1])})
	}
	return all
}

// keeping is a table by which all others stay.
func keeping(l []api.Pair) api.Table {
	return api.Table{Pairs: l, Keep: true}
}

// going is a table by which all others become def and, the other way, back.
func going(def, back api.Value, l []api.Pair) api.Table {
	return api.Table{Pairs: l, Def: def, Back: back}
}

// over is t turned, without the package's help.
func over(t api.Table) api.Table {
	t.Turned = !t.Turned
	return t
}

// with is t changed.
func with(t api.Table, change func(t *api.Table)) api.Table {
	change(&t)
	return t
}

var (
	swap   = keeping(numbers(1, 2, 2, 1))                                                              // 1 and 2 exchanged, the others stay
	grades = going(no, number(6), pairs(number(1), yes, number(2), yes, number(5), no))                // numbers as truths
	told   = going(text("?"), no, pairs(yes, text("on"), no, text("off")))                             // truths as texts, of which "?" is none's: it is not right
	marked = going(text("off"), no, pairs(yes, text("on")))                                            // truths as texts
	firsts = going(number(9), number(8), numbers(1, 5, 1, 6, 2, 5, 3, 6))                              // lefts and rights that are there twice
	parts  = keeping([]api.Pair{{From: api.Value{Kind: 1, Text: "a"}, To: yes}, {From: none, To: no}}) // values that are not right
)

func TestApplyAndBack(t *testing.T) { // P13.1, P13.2
	for _, c := range []struct {
		t          api.Table
		v          api.Value
		forth, way api.Value // way: back
	}{
		{swap, number(1), number(2), number(2)}, // the chapter's example
		{swap, number(2), number(1), number(1)},
		{swap, number(3), number(3), number(3)},
		{swap, number(0), number(0), number(0)},
		{swap, text("1"), text("1"), text("1")},
		{swap, truth(1), truth(1), truth(1)},
		{swap, none, none, none},
		{grades, number(1), yes, number(6)}, // on no right: the table's Back
		{grades, number(5), no, number(6)},
		{grades, number(7), no, number(6)}, // on no left: Def
		{grades, yes, no, number(1)},       // on two rights: the first pair counts
		{grades, no, no, number(5)},
		{grades, none, no, number(6)},
		{told, yes, text("on"), no},
		{told, no, text("off"), no},
		{told, text("on"), text("?"), yes},
		{told, text("off"), text("?"), no},
		{told, text("?"), text("?"), no},
		{told, text("of"), text("?"), no},
		{told, text("offf"), text("?"), no},
		{firsts, number(1), number(5), number(8)}, // on two lefts: the first pair counts
		{firsts, number(2), number(5), number(8)},
		{firsts, number(3), number(6), number(8)},
		{firsts, number(5), number(9), number(1)},
		{firsts, number(6), number(9), number(1)},
		{firsts, number(8), number(9), number(8)},
		{firsts, number(9), number(9), number(8)},
		{parts, api.Value{Kind: 1, Text: "a"}, yes, api.Value{Kind: 1, Text: "a"}},
		{parts, number(0), number(0), number(0)},
		{parts, text("a"), text("a"), text("a")},
		{parts, none, no, none},
		{parts, no, no, none},
		{parts, yes, yes, api.Value{Kind: 1, Text: "a"}},
		{parts, api.Value{Kind: 3, Int: 1, Text: "a"}, api.Value{Kind: 3, Int: 1, Text: "a"}, api.Value{Kind: 3, Int: 1, Text: "a"}},
		{api.Table{}, number(5), none, none},
		{api.Table{}, none, none, none},
		{going(number(1), text("x"), nil), yes, number(1), text("x")},
		{keeping(nil), number(5), number(5), number(5)},
		{api.Table{Keep: true, Def: number(1), Back: number(2)}, number(5), number(5), number(5)}, // with Keep neither Def nor Back counts
		{api.Table{Keep: true, Def: number(1), Back: number(2), Pairs: numbers(5, 6)}, number(5), number(6), number(5)},
		{going(number(1), number(2), numbers(1, 3, 4, 2)), number(1), number(3), number(2)}, // what comes of it is not led on
		{going(number(1), number(2), numbers(1, 3, 4, 2)), number(2), number(1), number(4)},
		{going(number(1), number(2), numbers(1, 3, 4, 2)), number(7), number(1), number(2)},
		{keeping(numbers(1, 2, 2, 3, 3, 4)), number(1), number(2), number(1)},
		{keeping(numbers(1, 2, 2, 3, 3, 4)), number(3), number(4), number(2)},
		{keeping(numbers(math.MinInt, math.MaxInt)), number(math.MinInt), number(math.MaxInt), number(math.MinInt)},
		{keeping(numbers(math.MinInt, math.MaxInt)), number(math.MaxInt), number(math.MaxInt), number(math.MinInt)},
	} {
		if got := Apply(c.t, c.v); got != c.forth {
			t.Errorf("Apply by %+v of %+v: %+v, want %+v", c.t, c.v, got, c.forth)
		}
		if got := Back(c.t, c.v); got != c.way {
			t.Errorf("Back by %+v of %+v: %+v, want %+v", c.t, c.v, got, c.way)
		}
		if got := Apply(over(c.t), c.v); got != c.way {
			t.Errorf("Apply by %+v, turned, of %+v: %+v, want %+v", c.t, c.v, got, c.way)
		}
		if got := Back(over(c.t), c.v); got != c.forth {
			t.Errorf("Back by %+v, turned, of %+v: %+v, want %+v", c.t, c.v, got, c.forth)
		}
	}
}

// plainForth and plainBack tell what the chapter calls forth and back, one pair behind another.
func plainForth(t api.Table, v api.Value) api.Value {
	for _, p := range t.Pairs {
		if p.From == v {
			return p.To
		}
	}
	if t.Keep {
		return v
	}
	return t.Def
}

func plainBack(t api.Table, v api.Value) api.Value {
	for _, p := range t.Pairs {
		if p.To == v {
			return p.From
		}
	}
	if t.Keep {
		return v
	}
	return t.Back
}

// plainRight tells P13.4 by its words, one behind another.
func plainRight(t api.Table, from, to int) bool {
	if t.Turned {
		from, to = to, from
	}
	ok := from >= 1 && from <= 3 && to >= 1 && to <= 3 && len(t.Pairs) <= 8
	lefts, rights := map[api.Value]int{}, map[api.Value]int{}
	for _, p := range t.Pairs {
		ok = ok && val.Right(p.From) && val.Right(p.To) && p.From.Kind == from && p.To.Kind == to
		lefts[p.From]++
		rights[p.To]++
	}
	for _, many := range lefts {
		ok = ok && many == 1
	}
	if !t.Keep {
		ok = ok && val.Right(t.Def) && t.Def.Kind == to && val.Right(t.Back) && t.Back.Kind == from
		ok = ok && plainForth(t, plainBack(t, t.Def)) == t.Def
		return ok && plainBack(t, plainForth(t, t.Back)) == t.Back
	}
	ok = ok && from == to && t.Def == none && t.Back == none
	for v := range lefts {
		if rights[v] == 0 {
			ok = ok && plainBack(t, plainForth(t, v)) == v
		}
	}
	return ok
}

// plainLossless tells P13.5 by its words.
func plainLossless(t api.Table, from, to int) bool {
	ok := plainRight(t, from, to)
	if !t.Keep {
		ok = ok && from == 3 && to == 3 && plainForth(t, no) != plainForth(t, yes)
		return ok && plainBack(t, plainForth(t, no)) == no && plainBack(t, plainForth(t, yes)) == yes
	}
	rights := map[api.Value]int{}
	for _, p := range t.Pairs {
		rights[p.To]++
	}
	for v, many := range rights {
		ok = ok && many == 1 && slices.ContainsFunc(t.Pairs, func(p api.Pair) bool { return p.From == v })
	}
	return ok
}

// listsOf is all lists of at most that many pairs from lefts to rights.
func listsOf(lefts, rights []api.Value, most int) [][]api.Pair {
	all := [][]api.Pair{nil}
	for from := 0; most > 0; most-- {
		upTo := len(all)
		for _, l := range all[from:upTo] {
			for _, a := range lefts {
				for _, b := range rights {
					all = append(all, append(slices.Clone(l), api.Pair{From: a, To: b}))
				}
			}
		}
		from = upTo
	}
	return all
}

// small is all tables of at most three pairs of a few values of a kind or two, and some that are not right.
func small() []api.Table {
	ints, texts, truths := []api.Value{number(0), number(1), number(2)}, []api.Value{text(""), text("1")}, []api.Value{no, yes}
	var all []api.Table
	add := func(lefts, rights []api.Value, most int) {
		for _, l := range listsOf(lefts, rights, most) {
			for _, def := range append([]api.Value{none}, rights...) {
				for _, back := range append([]api.Value{none}, lefts...) {
					t := going(def, back, l)
					k := with(t, func(t *api.Table) { t.Keep = true })
					all = append(all, t, k, over(t), over(k))
				}
			}
		}
	}
	add(ints, ints, 3)
	add(truths, truths, 3)
	add(truths, ints, 3)
	add(texts, truths, 3)
	add([]api.Value{number(1), yes, {Kind: 1, Text: "a"}}, []api.Value{number(1), truth(2)}, 2) // of kinds that are mixed, and not right
	return all
}

// someOf is some values of that kind, more than a table may have pairs; of no kind, some that are not right.
func someOf(kind int) []api.Value {
	switch kind {
	case api.ValInt:
		l := []api.Value{number(math.MinInt), number(math.MaxInt)}
		for n := -2; n < 14; n++ {
			l = append(l, number(n))
		}
		return l
	case api.ValText:
		l := []api.Value{text(""), text(strings.Repeat("\xff", api.MaxText)), text("\x00")}
		for n := range 14 {
			l = append(l, text(fmt.Sprint(n)))
		}
		return l
	case api.ValBool:
		return []api.Value{no, yes}
	}
	return []api.Value{none, truth(2), truth(-1), {Kind: 1, Text: "a"}, {Kind: 2, Int: 1}, {Kind: 3, Text: "a"}, {Kind: 4}, {Kind: -1}, text(strings.Repeat("x", api.MaxText+1)), {Int: 1}}
}

// one is one of l.
func one[thing any](r *rand.Rand, l []thing) thing {
	return l[r.Intn(len(l))]
}

// drawn is a table from values of the kind from to such of the kind to, with pairs up to MaxPairs, that may well be right.
func drawn(r *rand.Rand, from, to int) api.Table {
	lefts, rights := someOf(from), someOf(to)
	r.Shuffle(len(lefts), func(j, k int) { lefts[j], lefts[k] = lefts[k], lefts[j] })
	lefts = lefts[:r.Intn(min(len(lefts), api.MaxPairs)+1)]
	t := api.Table{Keep: from == to && r.Intn(2) == 0}
	to2 := slices.Clone(lefts) // to which values they lead, with Keep: mostly these, in another order
	r.Shuffle(len(to2), func(j, k int) { to2[j], to2[k] = to2[k], to2[j] })
	for k, v := range lefts {
		p := api.Pair{From: v, To: one(r, rights)}
		if t.Keep && r.Intn(12) > 0 {
			p.To = to2[k]
		}
		t.Pairs = append(t.Pairs, p)
	}
	if t.Keep {
		return t
	}
	t.Def, t.Back = one(r, rights), one(r, someOf(from))
	if len(t.Pairs) > 0 && r.Intn(2) == 0 { // what is on a right comes back from there
		t.Def = one(r, t.Pairs).To
		t.Back = plainBack(t, t.Def)
	}
	return t
}

// spoilt is t with something else at one place of it, by which it may not be right any more.
func spoilt(r *rand.Rand, t api.Table) api.Table {
	t.Pairs = slices.Clone(t.Pairs)
	v := one(r, someOf(r.Intn(4)))
	k := r.Intn(len(t.Pairs) + 1)
	switch r.Intn(6) {
	case 0:
		t.Def = v
	case 1:
		t.Back = v
	case 2:
		t.Keep = !t.Keep
	case 3:
		t.Pairs = slices.Insert(t.Pairs, k, api.Pair{From: v, To: v})
	case 4:
		if k < len(t.Pairs) {
			t.Pairs[k].From = v
		}
	case 5:
		if k < len(t.Pairs) {
			t.Pairs[k].To = v
		}
	}
	return t
}

// many is n tables of all kinds, some of which are not right.
func many(seed int64, n int) []api.Table {
	r := rand.New(rand.NewSource(seed))
	var l []api.Table
	for range n {
		t := drawn(r, 1+r.Intn(3), 1+r.Intn(3))
		for r.Intn(3) == 0 {
			t = spoilt(r, t)
		}
		if r.Intn(2) == 0 {
			t = over(t)
		}
		l = append(l, t)
	}
	return l
}

// all is the tables of small, and many.
func all() []api.Table {
	return slices.Concat(small(), many(1, 40000), []api.Table{swap, grades, told, marked, firsts, parts, {}})
}

func TestWaysOfAny(t *testing.T) { // P13.1, P13.2: held against their words
	r := rand.New(rand.NewSource(2))
	for _, x := range all() {
		for range 3 {
			v := one(r, someOf(r.Intn(4)))
			forth, back := plainForth(x, v), plainBack(x, v)
			if x.Turned {
				forth, back = back, forth
			}
			if got := Apply(x, v); got != forth {
				t.Fatalf("Apply by %+v of %+v: %+v, want %+v", x, v, got, forth)
			}
			if got := Back(x, v); got != back {
				t.Fatalf("Back by %+v of %+v: %+v, want %+v", x, v, got, back)
			}
		}
	}
}

func TestTurn(t *testing.T) { // P13.3
	for _, x := range []struct{ t, want api.Table }{
		{api.Table{}, api.Table{Turned: true}},
		{api.Table{Turned: true}, api.Table{}},
		{swap, api.Table{Pairs: numbers(1, 2, 2, 1), Keep: true, Turned: true}},
		{grades, api.Table{Pairs: pairs(number(1), yes, number(2), yes, number(5), no), Def: no, Back: number(6), Turned: true}},
		{api.Table{Pairs: parts.Pairs, Def: truth(7), Back: text("x"), Turned: true}, api.Table{Pairs: parts.Pairs, Def: truth(7), Back: text("x")}},
	} {
		if got := Turn(x.t); !reflect.DeepEqual(got, x.want) {
			t.Errorf("Turn of %+v: %+v, want %+v", x.t, got, x.want)
		}
	}
	r := rand.New(rand.NewSource(3))
	for _, x := range all() {
		got := Turn(x)
		if !Same(got, over(x)) || !Same(Turn(got), x) {
			t.Fatalf("Turn of %+v: %+v, and of that %+v", x, got, Turn(got))
		}
		v := one(r, someOf(r.Intn(4)))
		if Apply(got, v) != Back(x, v) || Back(got, v) != Apply(x, v) {
			t.Fatalf("by %+v, turned, %+v becomes %+v", x, v, Apply(got, v))
		}
	}
}

// eight is as many pairs as there may be: 0 to 7, each of which becomes the next one.
func eight() []api.Pair {
	return numbers(0, 1, 1, 2, 2, 3, 3, 4, 4, 5, 5, 6, 6, 7, 7, 0)
}

// long is the longest text.
var long = strings.Repeat("x", api.MaxText)

// want is whether a table is right, and whether it loses nothing, from a kind to a kind.
type want struct {
	t               api.Table
	from, to        int
	right, lossless bool
}

// rightOnes: tables that are right.
var rightOnes = []want{
	{swap, 1, 1, true, true}, // the chapter's example
	{keeping(nil), 1, 1, true, true},
	{keeping(nil), 2, 2, true, true},
	{keeping(nil), 3, 3, true, true},
	{keeping(eight()), 1, 1, true, true},
	{keeping(numbers(5, 5)), 1, 1, true, true},
	{keeping(numbers(1, 2, 2, 3, 3, 1)), 1, 1, true, true},
	{keeping(numbers(math.MinInt, math.MaxInt, math.MaxInt, math.MinInt)), 1, 1, true, true},
	{keeping(pairs(text(""), text(long), text(long), text(""))), 2, 2, true, true},
	{keeping(pairs(no, yes, yes, no)), 3, 3, true, true},
	{keeping(pairs(no, no)), 3, 3, true, true},
	{keeping(numbers(1, 2)), 1, 1, true, false}, // 2 becomes 2, and comes back as 1
	{keeping(numbers(1, 2, 2, 3)), 1, 1, true, false},
	{keeping(numbers(1, 1, 2, 1)), 1, 1, false, false}, // 2 is on no right, and comes back as 1
	{keeping(numbers(1, 2, 2, 2)), 1, 1, true, false},  // 1 is on no right, and comes back; 2 does not
	{keeping(numbers(1, 2, 2, 1, 3, 3)), 1, 1, true, true},
	{keeping(pairs(no, yes)), 3, 3, true, false},
	{going(number(0), number(9), nil), 1, 1, true, false},
	{going(no, no, nil), 3, 3, true, false},
	{going(yes, no, nil), 3, 3, true, false},
	{going(no, text(long), nil), 2, 3, true, false},
	{grades, 1, 3, false, false}, // Back, 6, is on no left, becomes no, and comes back as 5
	{going(no, number(5), grades.Pairs), 1, 3, true, false},
	{going(yes, number(1), grades.Pairs), 1, 3, true, false},
	{going(yes, number(2), grades.Pairs), 1, 3, false, false}, // Back, 2, becomes yes, and comes back as 1
	{going(yes, number(6), pairs(number(5), no)), 1, 3, true, false},
	{marked, 3, 2, true, false}, // truths lose nothing, texts do
	{told, 3, 2, false, false},
	{going(text("on"), yes, told.Pairs), 3, 2, true, false},
	{going(no, yes, pairs(no, yes)), 3, 3, true, true},
	{going(yes, no, pairs(yes, no)), 3, 3, true, true},
	{going(yes, yes, pairs(no, no)), 3, 3, true, true},
	{going(no, no, pairs(yes, yes)), 3, 3, true, true},
	{going(no, no, pairs(no, no, yes, yes)), 3, 3, true, true},
	{going(yes, no, pairs(no, yes, yes, no)), 3, 3, true, true},
	{going(no, yes, pairs(no, yes, yes, no)), 3, 3, true, true},
	{going(no, no, pairs(no, no, yes, no)), 3, 3, true, false},
	{going(yes, no, pairs(no, yes)), 3, 3, true, false},
	{going(yes, no, pairs(no, yes, yes, yes)), 3, 3, true, false},
	{going(yes, yes, pairs(no, yes, yes, yes)), 3, 3, false, false},
	{going(number(0), number(7), eight()), 1, 1, true, false},
	{going(no, yes, pairs(no, yes)), 1, 3, false, false},
	{going(no, yes, pairs(no, yes)), 3, 1, false, false},
}

// wrongOnes: tables that are not right.
var wrongOnes = []want{
	{t: api.Table{}, from: 1, to: 1},
	{t: api.Table{}}, // of no kind
	{t: keeping(nil)},
	{t: keeping(nil), from: 4, to: 4},
	{t: keeping(nil), from: 5, to: 5},
	{t: keeping(nil), from: -1, to: -1},
	{t: keeping(nil), from: math.MaxInt, to: math.MaxInt},
	{t: keeping(nil), from: math.MinInt, to: math.MinInt},
	{t: keeping(nil), from: 1 << 32, to: 1 << 32},
	{t: keeping(nil), from: 1<<32 + 1, to: 1<<32 + 1},
	{t: keeping(nil), from: 1, to: 2}, // to another kind all can't stay
	{t: keeping(nil), from: 1, to: 3},
	{t: keeping(nil), from: 3, to: 1},
	{t: keeping(nil), from: 1, to: 0},
	{t: keeping(nil), from: 0, to: 1},
	{t: keeping(nil), from: 4, to: 1},
	{t: keeping(nil), from: 1, to: 4},
	{t: keeping(pairs(number(1), yes)), from: 1, to: 3},
	{t: keeping(pairs(none, none))},
	{t: keeping(pairs(api.Value{Kind: 4}, api.Value{Kind: 4})), from: 4, to: 4},
	{t: api.Table{Keep: true, Def: number(0)}, from: 1, to: 1}, // with Keep Def and Back are all zero
	{t: api.Table{Keep: true, Back: number(0)}, from: 1, to: 1},
	{t: api.Table{Keep: true, Def: api.Value{Text: "a"}}, from: 1, to: 1},
	{t: api.Table{Keep: true, Back: api.Value{Int: 1}}, from: 1, to: 1},
	{t: keeping(append(eight(), numbers(8, 8)...)), from: 1, to: 1}, // nine pairs
	{t: going(number(0), number(7), append(eight(), numbers(8, 8)...)), from: 1, to: 1},
	{t: swap, from: 2, to: 2}, // of other kinds
	{t: swap, from: 3, to: 3},
	{t: swap, from: 1, to: 2},
	{t: keeping(pairs(number(1), text("1"), text("1"), number(1))), from: 1, to: 1},
	{t: keeping(numbers(1, 2, 1, 2)), from: 1, to: 1}, // a left twice
	{t: keeping(numbers(1, 2, 2, 1, 1, 2)), from: 1, to: 1},
	{t: keeping(numbers(1, 2, 2, 1, 1, 3)), from: 1, to: 1},
	{t: going(number(5), number(1), numbers(1, 5, 1, 6)), from: 1, to: 1},
	{t: going(no, number(5), pairs(number(5), no, number(5), no)), from: 1, to: 3},
	{t: keeping(numbers(1, 3, 2, 3)), from: 1, to: 1}, // 2 comes back as 1
	{t: keeping(numbers(1, 3, 4, 4, 2, 3)), from: 1, to: 1},
	{t: keeping(pairs(truth(2), no)), from: 3, to: 3}, // values that are not right
	{t: keeping(pairs(no, truth(2))), from: 3, to: 3},
	{t: keeping(pairs(api.Value{Kind: 1, Text: "a"}, number(1))), from: 1, to: 1},
	{t: keeping(pairs(number(1), api.Value{Kind: 1, Text: "a"})), from: 1, to: 1},
	{t: keeping(pairs(text(long+"x"), text(""))), from: 2, to: 2},
	{t: keeping(pairs(text(""), text(long+"x"))), from: 2, to: 2},
	{t: keeping(pairs(text(""), api.Value{Kind: 2, Int: 1})), from: 2, to: 2},
	{t: going(none, number(1), nil), from: 1, to: 1}, // without Keep Def and Back are right, and of their kinds
	{t: going(number(1), none, nil), from: 1, to: 1},
	{t: going(number(1), number(1), nil), from: 1, to: 3},
	{t: going(number(1), number(1), nil), from: 3, to: 1},
	{t: going(yes, number(1), nil), from: 3, to: 1}, // the other way round
	{t: going(truth(2), no, nil), from: 3, to: 3},
	{t: going(no, truth(2), nil), from: 3, to: 3},
	{t: going(text(long+"x"), no, nil), from: 3, to: 2},
	{t: going(no, text(long+"x"), nil), from: 2, to: 3},
	{t: going(no, number(5), pairs(yes, no)), from: 1, to: 3}, // a left of another kind
	{t: going(no, number(5), pairs(number(5), text("no"))), from: 1, to: 3},
	{t: going(no, number(5), pairs(number(5), yes)), from: 1, to: 3}, // Def, no, comes back as 5, and forth as yes
	{t: going(no, number(4), pairs(number(5), no)), from: 1, to: 3},  // Back, 4, becomes no, and comes back as 5
	{t: going(number(1), number(3), numbers(3, 2)), from: 1, to: 1},
	{t: going(number(3), number(2), numbers(1, 3, 2, 3)), from: 1, to: 1},
	{t: marked, from: 2, to: 3},
	{t: marked, from: 3, to: 3},
	{t: marked, from: 3, to: 4},
	{t: marked, from: 0, to: 2},
}

func TestRightAndLossless(t *testing.T) { // P13.4, P13.5
	for _, x := range slices.Concat(rightOnes, wrongOnes) {
		if got := Right(x.t, x.from, x.to); got != x.right {
			t.Errorf("Right of %+v from %d to %d: %t", x.t, x.from, x.to, got)
		}
		if got := Lossless(x.t, x.from, x.to); got != x.lossless {
			t.Errorf("Lossless of %+v from %d to %d: %t", x.t, x.from, x.to, got)
		}
		if got := Right(over(x.t), x.to, x.from); got != x.right { // turned it leads the other way
			t.Errorf("Right of %+v, turned, from %d to %d: %t", x.t, x.to, x.from, got)
		}
		if got := Lossless(over(x.t), x.to, x.from); got != x.lossless {
			t.Errorf("Lossless of %+v, turned, from %d to %d: %t", x.t, x.to, x.from, got)
		}
		if x.right && x.from != x.to && (Right(x.t, x.to, x.from) || Right(over(x.t), x.from, x.to)) {
			t.Errorf("%+v is right from %d to %d, too", x.t, x.to, x.from)
		}
	}
}

func TestRightAndLosslessOfAny(t *testing.T) { // P13.4, P13.5: held against their words
	told := map[[3]bool]int{}
	for _, x := range all() {
		for from := range 5 {
			for to := range 5 {
				right, lossless := plainRight(x, from, to), plainLossless(x, from, to)
				if got := Right(x, from, to); got != right {
					t.Fatalf("Right of %+v from %d to %d: %t", x, from, to, got)
				}
				if got := Lossless(x, from, to); got != lossless {
					t.Fatalf("Lossless of %+v from %d to %d: %t", x, from, to, got)
				}
				told[[3]bool{x.Keep, right, lossless}]++
			}
		}
	}
	for _, keep := range []bool{false, true} {
		for _, is := range [][3]bool{{keep, true, true}, {keep, true, false}, {keep, false, false}} {
			if told[is] < 50 {
				t.Errorf("of such as are %v there are %d: too few to tell", is, told[is])
			}
		}
	}
}

// kindsOf is from which kind to which one x is right, if it is.
func kindsOf(x api.Table) (from, to int, ok bool) {
	for from := api.ValInt; from <= api.ValBool; from++ {
		for to := api.ValInt; to <= api.ValBool; to++ {
			if Right(x, from, to) {
				return from, to, true
			}
		}
	}
	return 0, 0, false
}

func TestThereAndBack(t *testing.T) { // P13.9: of one that is right, turned or not
	many := 0
	for _, x := range all() {
		from, to, ok := kindsOf(x)
		if !ok {
			continue
		}
		many++
		for _, v := range someOf(from) {
			forth := Apply(x, v)
			if forth.Kind != to || !val.Right(forth) {
				t.Fatalf("by %+v %+v becomes %+v, which is no value of the kind %d", x, v, forth, to)
			}
			if got := Apply(x, Back(x, forth)); got != forth {
				t.Fatalf("by %+v %+v becomes %+v, and, back and forth, %+v", x, v, forth, got)
			}
			if Lossless(x, from, to) && Back(x, forth) != v {
				t.Fatalf("%+v loses nothing, and %+v comes back as %+v", x, v, Back(x, forth))
			}
		}
		for _, v := range someOf(to) {
			back := Back(x, v)
			if back.Kind != from || !val.Right(back) {
				t.Fatalf("by %+v %+v comes back as %+v, which is no value of the kind %d", x, v, back, from)
			}
			if got := Back(x, Apply(x, back)); got != back {
				t.Fatalf("by %+v %+v comes back as %+v, and, forth and back, as %+v", x, v, back, got)
			}
			if Lossless(x, from, to) && Apply(x, back) != v {
				t.Fatalf("%+v loses nothing, and %+v, back and forth, is %+v", x, v, Apply(x, back))
			}
		}
	}
	if many < 5000 {
		t.Errorf("%d of these are right: too few to tell", many)
	}
}

func TestWhatLosesSomething(t *testing.T) { // P13.10
	many := 0
	for _, x := range all() {
		from, to, ok := kindsOf(x)
		if !ok || Lossless(x, from, to) {
			continue
		}
		many++
		lost := func(v api.Value) bool { return Back(x, Apply(x, v)) != v }
		lostBack := func(v api.Value) bool { return Apply(x, Back(x, v)) != v }
		lefts, rights := someOf(from), someOf(to)
		for _, p := range x.Pairs { // what it has itself may be the only thing that is lost
			if x.Turned {
				p.From, p.To = p.To, p.From
			}
			lefts, rights = append(lefts, p.From), append(rights, p.To)
		}
		if !slices.ContainsFunc(lefts, lost) && !slices.ContainsFunc(rights, lostBack) {
			t.Fatalf("%+v is told to lose something from %d to %d, and all comes back", x, from, to)
		}
	}
	if many < 3000 {
		t.Errorf("%d of these lose something: too few to tell", many)
	}
}

func TestPut(t *testing.T) { // P13.6
	for _, c := range []struct {
		t    api.Table
		want string
	}{
		{api.Table{}, "\x00\x00\x00\x00"},
		{api.Table{Keep: true}, "\x01\x00\x00\x00"},
		{api.Table{Turned: true}, "\x02\x00\x00\x00"},
		{api.Table{Keep: true, Turned: true}, "\x03\x00\x00\x00"},
		{swap, "\x01\x02\x01\x02\x01\x04\x01\x04\x01\x02\x00\x00"},
		{over(swap), "\x03\x02\x01\x02\x01\x04\x01\x04\x01\x02\x00\x00"},
		{marked, "\x00\x01\x03\x02\x02\x02on\x02\x03off\x03\x00"},
		{over(marked), "\x02\x01\x03\x02\x02\x02on\x02\x03off\x03\x00"},
		{going(number(-5), text("a"), nil), "\x00\x00\x01\x09\x02\x01a"},
		{api.Table{Keep: true, Def: number(-5), Back: yes}, "\x01\x00\x01\x09\x03\x02"},                      // what is not right is put, too
		{keeping([]api.Pair{{From: api.Value{Kind: 5, Int: 1, Text: "a"}}}), "\x01\x01\x01\x02\x00\x00\x00"}, // of kinds, as val.Put has it
		{going(api.Value{Kind: -1, Int: -1}, api.Value{Kind: 4, Int: 3}, nil), "\x00\x00\x03\x01\x00"},
		{keeping(numbers(1, 1, 1, 1, 1, 1, 1, 1, 1, 1, 1, 1, 1, 1, 1, 1, 1, 1)), "\x01\x09" + strings.Repeat("\x01\x02", 18) + "\x00\x00"},
		{keeping(make([]api.Pair, 300)), "\x01\xac\x02" + strings.Repeat("\x00\x00", 300) + "\x00\x00"},
		{keeping(pairs(text(long+"x"), none)), "\x01\x01\x02\xc9\x01" + long + "x\x00\x00\x00"},
	} {
		for _, b := range []string{"", "b", "\x80\xff"} {
			if got := Put(b, c.t); got != b+c.want {
				t.Errorf("Put behind %x of %+v: %x, want %x", b, c.t, got, b+c.want)
			}
		}
	}
}

// tails: what may follow a table; some look like parts of one.
var tails = []string{"", "a", "\x00", "\x01\x02", "\x02\x01a", "\x80", "\xff\xff\xff\xff\xff\xff\xff\xff\xff\xff\xff"}

func TestWhatIsPutIsTaken(t *testing.T) { // P13.6, P13.7: of values that are right, or none
	count := 0
	for _, x := range slices.Concat(many(4, 20000), []api.Table{swap, marked, told, firsts, {}, keeping(eight()), keeping(make([]api.Pair, 8))}) {
		ok := len(x.Pairs) <= api.MaxPairs
		values := []api.Value{x.Def, x.Back}
		for _, p := range x.Pairs {
			values = append(values, p.From, p.To)
		}
		if !ok || slices.ContainsFunc(values, func(v api.Value) bool { return v != none && !val.Right(v) }) {
			continue
		}
		count++
		b := Put("", x)
		for _, tail := range tails {
			got, rest, err := Take(b + tail)
			if err != api.OK || rest != tail || !Same(got, x) {
				t.Fatalf("Take of what is put of %+v and %x: %+v, %x, %d", x, tail, got, rest, err)
			}
		}
		for k := range len(b) {
			if got, rest, err := Take(b[:k]); !Same(got, api.Table{}) || rest != "" || err != api.ErrShort {
				t.Fatalf("Take of the first %d bytes of %x: %+v, %x, %d", k, b, got, rest, err)
			}
		}
	}
	if count < 5000 {
		t.Errorf("%d of these can be taken: too few to tell", count)
	}
}

func TestTake(t *testing.T) { // P13.7
	nine := strings.Repeat("\x80", 9)
	one := "\x01\x02"
	for _, c := range []struct {
		b    string
		t    api.Table
		rest string
		err  api.Errno
	}{
		{"", api.Table{}, "", api.ErrShort},
		{"\x80", api.Table{}, "", api.ErrShort},
		{"\x81\x00", api.Table{}, "", api.ErrForm},
		{nine + "\x02", api.Table{}, "", api.ErrLong},
		{"\x04", api.Table{}, "", api.ErrForm}, // told at once, whatever follows
		{"\x04\x09", api.Table{}, "", api.ErrForm},
		{"\x04\x00\x00\x00", api.Table{}, "", api.ErrForm},
		{"\x05\x00\x00\x00", api.Table{}, "", api.ErrForm},
		{"\x7f\x00\x00\x00", api.Table{}, "", api.ErrForm},
		{varint.Put("", 1<<32+1) + "\x00\x00\x00", api.Table{}, "", api.ErrForm},
		{varint.Put("", math.MaxUint64) + "\x00\x00\x00", api.Table{}, "", api.ErrForm},
		{"\x03", api.Table{}, "", api.ErrShort},
		{"\x03\x80", api.Table{}, "", api.ErrShort},
		{"\x03\x81\x00", api.Table{}, "", api.ErrForm},
		{"\x03" + nine + "\x02", api.Table{}, "", api.ErrLong},
		{"\x00\x09", api.Table{}, "", api.ErrLong}, // told at once, whatever follows
		{"\x00\x09\x04", api.Table{}, "", api.ErrLong},
		{"\x00\x09" + strings.Repeat(one, 20), api.Table{}, "", api.ErrLong},
		{"\x00\xac\x02" + strings.Repeat(one, 700), api.Table{}, "", api.ErrLong},
		{"\x00" + varint.Put("", 1<<32+1) + one + one + one + one, api.Table{}, "", api.ErrLong},
		{"\x00" + varint.Put("", math.MaxUint64) + one + one, api.Table{}, "", api.ErrLong},
		{"\x00\x00", api.Table{}, "", api.ErrShort},
		{"\x00\x00\x00", api.Table{}, "", api.ErrShort},
		{"\x00\x00\x00\x00", api.Table{}, "", api.OK},
		{"\x00\x00\x00\x00a", api.Table{}, "a", api.OK},
		{"\x01\x00\x00\x00", api.Table{Keep: true}, "", api.OK},
		{"\x02\x00\x00\x00\x00", api.Table{Turned: true}, "\x00", api.OK},
		{"\x03\x00\x00\x00", api.Table{Keep: true, Turned: true}, "", api.OK},
		{"\x01\x02\x01\x02\x01\x04\x01\x04\x01\x02\x00\x00rest", swap, "rest", api.OK},
		{"\x02\x01\x03\x02\x02\x02on\x02\x03off\x03\x00\xff", over(marked), "\xff", api.OK},
		{"\x00\x00\x01\x09\x02\x01a", going(number(-5), text("a"), nil), "", api.OK},
		{"\x01\x00\x01\x09\x03\x02", api.Table{Keep: true, Def: number(-5), Back: yes}, "", api.OK}, // what is not right is taken, too
		{"\x00\x02" + one + one + one + one + "\x00\x00", api.Table{Pairs: numbers(1, 1, 1, 1)}, "", api.OK},
		{"\x01\x01\x00\x00\x00\x00", api.Table{Keep: true, Pairs: make([]api.Pair, 1)}, "", api.OK},
		{"\x01\x08" + strings.Repeat(one, 16) + "\x00\x00", keeping(numbers(1, 1, 1, 1, 1, 1, 1, 1, 1, 1, 1, 1, 1, 1, 1, 1)), "", api.OK},
		{"\x01\x08" + strings.Repeat(one, 17), api.Table{}, "", api.ErrShort},
		{"\x01\x08" + strings.Repeat(one, 15), api.Table{}, "", api.ErrShort},
		{"\x00\x01", api.Table{}, "", api.ErrShort}, // in a pair
		{"\x00\x01\x04", api.Table{}, "", api.ErrForm},
		{"\x00\x01\x03\x04", api.Table{}, "", api.ErrForm},
		{"\x00\x01\x02\xc9\x01", api.Table{}, "", api.ErrLong},
		{"\x00\x01" + one, api.Table{}, "", api.ErrShort},
		{"\x00\x01" + one + "\x02\x02a", api.Table{}, "", api.ErrShort},
		{"\x00\x01" + one + "\x05", api.Table{}, "", api.ErrForm},
		{"\x00\x01" + one + "\x01\x80\x00", api.Table{}, "", api.ErrForm},
		{"\x00\x01" + one + "\x02\xc9\x01" + long + "x", api.Table{}, "", api.ErrLong},
		{"\x00\x02" + one + one + "\x04\x02\xc9\x01", api.Table{}, "", api.ErrForm}, // the first error
		{"\x00\x02" + one + one + "\x02\xc9\x01\x04", api.Table{}, "", api.ErrLong},
		{"\x00\x00\x04", api.Table{}, "", api.ErrForm}, // in Def
		{"\x00\x00\x03\x04", api.Table{}, "", api.ErrForm},
		{"\x00\x00\x02\xc9\x01", api.Table{}, "", api.ErrLong},
		{"\x00\x00" + one, api.Table{}, "", api.ErrShort}, // in Back
		{"\x00\x00" + one + "\x04", api.Table{}, "", api.ErrForm},
		{"\x00\x00" + one + "\x03\x01", api.Table{}, "", api.ErrForm},
		{"\x00\x00" + one + "\x02\xc9\x01" + long + "x", api.Table{}, "", api.ErrLong},
		{"\x00\x00\x02\xc8\x01" + long + "\x00", going(text(long), none, nil), "", api.OK},
	} {
		got, rest, err := Take(c.b)
		if !reflect.DeepEqual(got, c.t) || rest != c.rest || err != c.err {
			t.Errorf("Take of %x: %+v, %x, %d, want %+v, %x, %d", c.b, got, rest, err, c.t, c.rest, c.err)
		}
	}
}

// plainTake tells P13.7 by its words, one behind another.
func plainTake(b string) (api.Table, string, api.Errno) {
	fail := func(err api.Errno) (api.Table, string, api.Errno) { return api.Table{}, "", err }
	how, rest, err := varint.Take(b)
	if err != api.OK {
		return fail(err)
	}
	if how > 3 {
		return fail(api.ErrForm)
	}
	n, rest, err := varint.Take(rest)
	if err != api.OK {
		return fail(err)
	}
	if n > 8 {
		return fail(api.ErrLong)
	}
	l := make([]api.Value, 2*n+2)
	for k := range l {
		if l[k], rest, err = val.Take(rest); err != api.OK {
			return fail(err)
		}
	}
	return api.Table{Pairs: pairs(l[:2*n]...), Keep: how%2 == 1, Def: l[2*n], Back: l[2*n+1], Turned: how >= 2}, rest, api.OK
}

// someBytes: texts that begin as a table does, and such that are changed or cut.
func someBytes(seed int64, n int) []string {
	r := rand.New(rand.NewSource(seed))
	l := []string{""}
	for a := range 256 {
		for b := range 256 {
			l = append(l, string([]byte{byte(a), byte(b)}), string([]byte{byte(a % 4), byte(b % 9), byte(a), byte(b)}))
		}
	}
	for _, t := range many(seed, n) {
		b := []byte(Put("", t) + one(r, tails))
		for range r.Intn(3) {
			k := r.Intn(len(b))
			b[k] = one(r, []byte{byte(r.Intn(256)), byte(r.Intn(5)), b[k] + 1, 0x80, 0})
		}
		if r.Intn(3) == 0 {
			b = b[:r.Intn(len(b)+1)]
		}
		l = append(l, string(b))
	}
	return l
}

func TestTakeOfAnyBytes(t *testing.T) { // P13.7, R1, R6: held against its words; what is taken is put as just these bytes
	told := map[api.Errno]int{}
	for _, b := range someBytes(5, 60000) {
		got, rest, err := Take(b)
		want, wantRest, wantErr := plainTake(b)
		if !reflect.DeepEqual(got, want) || rest != wantRest || err != wantErr {
			t.Fatalf("Take of %x: %+v, %x, %d, want %+v, %x, %d", b, got, rest, err, want, wantRest, wantErr)
		}
		if err == api.OK && Put("", got)+rest != b {
			t.Fatalf("%x is taken, and put as %x", b, Put("", got)+rest)
		}
		told[err]++
	}
	for _, err := range []api.Errno{api.OK, api.ErrShort, api.ErrForm, api.ErrLong} {
		if told[err] < 200 {
			t.Errorf("%d is told %d times: too few to tell", err, told[err])
		}
	}
	if len(told) != 4 {
		t.Errorf("other errors are told: %v", told)
	}
}

func TestSame(t *testing.T) { // P13.8
	base := api.Table{Pairs: pairs(number(1), yes, number(2), no), Def: no, Back: number(2)}
	others := []api.Table{
		{},
		with(base, func(t *api.Table) { t.Keep = true }),
		with(base, func(t *api.Table) { t.Turned = true }),
		with(base, func(t *api.Table) { t.Def = yes }),
		with(base, func(t *api.Table) { t.Def = number(0) }),
		with(base, func(t *api.Table) { t.Def.Text = "a" }),
		with(base, func(t *api.Table) { t.Back = number(3) }),
		with(base, func(t *api.Table) { t.Back = none }),
		with(base, func(t *api.Table) { t.Def, t.Back = t.Back, t.Def }),
		with(base, func(t *api.Table) { t.Pairs = nil }),
		with(base, func(t *api.Table) { t.Pairs = base.Pairs[:1] }),
		with(base, func(t *api.Table) { t.Pairs = base.Pairs[1:] }),
		with(base, func(t *api.Table) { t.Pairs = append(slices.Clone(base.Pairs), api.Pair{}) }),
		with(base, func(t *api.Table) { t.Pairs = pairs(number(2), no, number(1), yes) }), // in another order
		with(base, func(t *api.Table) { t.Pairs = pairs(yes, number(1), no, number(2)) }),
		with(base, func(t *api.Table) { t.Pairs = pairs(number(3), yes, number(2), no) }),
		with(base, func(t *api.Table) { t.Pairs = pairs(number(1), yes, number(2), yes) }),
		with(base, func(t *api.Table) { t.Pairs = pairs(number(1), yes, number(2), api.Value{Kind: 3, Text: "a"}) }),
		{Pairs: make([]api.Pair, 1)},
		{Pairs: make([]api.Pair, 2)},
		{Pairs: pairs(number(1), number(2)), Turned: true}, // the other way, by other words
		{Pairs: pairs(number(2), number(1))},
	}
	if again := with(base, func(t *api.Table) { t.Pairs = slices.Clone(base.Pairs) }); !Same(base, again) || !Same(base, base) {
		t.Error("a table and itself are not the same")
	}
	if !Same(api.Table{}, api.Table{Pairs: []api.Pair{}}) || !Same(api.Table{Pairs: []api.Pair{}}, api.Table{}) {
		t.Error("no pairs and none are not the same")
	}
	for j, a := range append(others, base) {
		for k, b := range append(others, base) {
			if Same(a, b) != (j == k) {
				t.Errorf("Same of %+v and %+v: %t", a, b, j != k)
			}
		}
	}
}

func TestArgumentsAreNotChanged(t *testing.T) { // R3: nor the room behind their ends, and answers are new memory
	for _, x := range slices.Concat(many(6, 3000), []api.Table{swap, grades, {Pairs: []api.Pair{}}}) {
		room := append(slices.Clone(x.Pairs), numbers(1, 2, 2, 1)...)
		had := slices.Clone(room)
		one := with(x, func(t *api.Table) { t.Pairs = room[:len(x.Pairs)] })
		for _, v := range []api.Value{number(1), yes, text(""), none} {
			Apply(one, v)
			Back(one, v)
		}
		for from := range 4 {
			Right(one, from, from)
			Lossless(one, from, from)
		}
		Same(one, one)
		b := Put("b", one)
		turned := Turn(one)
		if !slices.Equal(room, had) {
			t.Fatalf("%+v were changed: %+v", had, room)
		}
		for k := range turned.Pairs[:cap(turned.Pairs)] {
			turned.Pairs[:cap(turned.Pairs)][k] = api.Pair{From: text("spoilt")}
		}
		if !slices.Equal(room, had) {
			t.Fatalf("%+v turned shares its pairs with it", x)
		}
		first, _, err := Take(b[1:])
		second, _, _ := Take(b[1:])
		for k := range first.Pairs {
			first.Pairs[k] = api.Pair{From: text("spoilt")}
		}
		if want, _, _ := plainTake(b[1:]); err == api.OK && !Same(second, want) {
			t.Fatalf("what is taken of %x is kept", b[1:])
		}
	}
}

func TestMany(t *testing.T) { // P13.1 to P13.8: of many pairs, and long texts
	const n = 1 << 18
	x := api.Table{Keep: true}
	for k := range n {
		x.Pairs = append(x.Pairs, api.Pair{From: number(k), To: number(k + 1)})
	}
	if Right(x, 1, 1) || Lossless(x, 1, 1) || Right(Turn(x), 1, 1) {
		t.Error("one of many pairs is right")
	}
	if got := Apply(x, number(n-1)); got != number(n) || Back(x, got) != number(n-1) || Back(Turn(x), number(n-1)) != got {
		t.Errorf("the last of many becomes %+v", got)
	}
	b := Put("b", x)
	if n := len(b); n < 4*len(x.Pairs) || !Same(x, Turn(Turn(x))) {
		t.Errorf("many pairs are %d bytes", n)
	}
	if got, rest, err := Take(b[1:]); !Same(got, api.Table{}) || rest != "" || err != api.ErrLong {
		t.Errorf("Take of many pairs: %+v, %x, %d", got, rest, err)
	}
	long := text(strings.Repeat("x", 1<<20))
	y := going(long, long, pairs(long, long))
	if Right(y, 2, 2) || Lossless(y, 2, 2) || Apply(y, long) != long || Apply(y, no) != long {
		t.Error("a table of long texts is right")
	}
	if got, rest, err := Take(Put("", y)); !Same(got, api.Table{}) || rest != "" || err != api.ErrLong {
		t.Errorf("Take of long texts: %+v, %x, %d", got, rest, err)
	}
}

func TestTheSameIsToldAgain(t *testing.T) { // R4
	tell := func() string {
		var b strings.Builder
		for _, x := range many(7, 2000) {
			got, rest, err := Take(Put("", x) + "rest")
			fmt.Fprintln(&b, Apply(x, number(1)), Back(x, yes), Turn(x), Right(x, 1, 3), Lossless(x, 1, 1), Put("b", x), got, rest, err)
		}
		return b.String()
	}
	if tell() != tell() {
		t.Error("not the same")
	}
}
