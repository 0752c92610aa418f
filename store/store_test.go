package store

import (
	"fmt"
	"math"
	"math/rand"
	"slices"
	"strings"
	"testing"

	"lorgnette/api"
	"lorgnette/ctx"
	"lorgnette/entry"
	"lorgnette/path"
	"lorgnette/varint"
)

// at is a dot, shortly.
func at(rep, seq int) api.Dot {
	return api.Dot{Rep: rep, Seq: seq}
}

// of is a set of dots as it is written down.
func of(vec []int, cloud ...api.Dot) api.Ctx {
	return api.Ctx{Vec: vec, Cloud: cloud}
}

// state is a state as it is written down.
func state(c api.Ctx, l ...api.Entry) api.State {
	return api.State{Entries: l, Ctx: c}
}

// reg is an entry that is right, if its dot and its path are.
func reg(rep, seq int, p string, n int) api.Entry {
	return api.Entry{Dot: at(rep, seq), Path: p, Kind: api.FieldReg, Val: api.Value{Kind: api.ValInt, Int: n}}
}

// tag is another one, of a set of texts.
func tag(rep, seq int, p, s string) api.Entry {
	return api.Entry{Dot: at(rep, seq), Path: p, Kind: api.FieldSet, Val: api.Value{Kind: api.ValText, Text: s}, Ver: at(3, 1)}
}

// count is another one, of a counter.
func count(rep, seq int, p string, n int) api.Entry {
	return api.Entry{Dot: at(rep, seq), Path: p, Kind: api.FieldCtr, Val: api.Value{Kind: api.ValInt, Int: n}, Ver: at(0, 9)}
}

// seven is a state that is right, of seven dots, five of which left something.
var seven = state(of([]int{2, 3}, at(1, 5), at(5, 2)),
	reg(0, 2, "name", 7), tag(1, 1, "a/7/c", "ada"), tag(1, 3, "a/8/c", "bob"), count(1, 5, "seen", -5), reg(5, 2, "a/7", 0))

// longest is the longest path: six segments of 16 bytes.
var longest = strings.Repeat("abcdefghijklmno0/", 6)[:101]

// clone is s in memory of its own.
func clone(s api.State) api.State {
	return state(of(slices.Clone(s.Ctx.Vec), slices.Clone(s.Ctx.Cloud)...), slices.Clone(s.Entries)...)
}

// plainSame is whether two states are the same, one thing behind another.
func plainSame(a, b api.State) bool {
	same := len(a.Entries) == len(b.Entries) && len(a.Ctx.Vec) == len(b.Ctx.Vec) && len(a.Ctx.Cloud) == len(b.Ctx.Cloud)
	for k := 0; same && k < len(a.Entries); k++ {
		same = a.Entries[k] == b.Entries[k]
	}
	for k := 0; same && k < len(a.Ctx.Vec); k++ {
		same = a.Ctx.Vec[k] == b.Ctx.Vec[k]
	}
	for k := 0; same && k < len(a.Ctx.Cloud); k++ {
		same = a.Ctx.Cloud[k] == b.Ctx.Cloud[k]
	}
	return same
}

// plainOrder is whether s is in order, by P8.1's words.
func plainOrder(s api.State) bool {
	order := ctx.Right(s.Ctx)
	for k, x := range s.Entries {
		for _, y := range s.Entries[:k] {
			order = order && (y.Dot.Rep < x.Dot.Rep || y.Dot.Rep == x.Dot.Rep && y.Dot.Seq < x.Dot.Seq)
		}
		order = order && ctx.Has(s.Ctx, x.Dot)
	}
	return order
}

// plainRight is whether s is right, by P8.1's words.
func plainRight(s api.State) bool {
	right := plainOrder(s)
	for _, x := range s.Entries {
		right = right && entry.Right(x)
	}
	return right
}

// left is what each dot left, of a state in which each dot stands once.
func left(s api.State) map[api.Dot]api.Entry {
	m := map[api.Dot]api.Entry{}
	for _, x := range s.Entries {
		m[x.Dot] = x
	}
	return m
}

// plainState is the state of what dots left, and of such dots.
func plainState(m map[api.Dot]api.Entry, c api.Ctx) api.State {
	s := api.State{Ctx: c}
	for len(m) > 0 {
		first := true
		var least api.Dot
		for d := range m {
			if first || d.Rep < least.Rep || d.Rep == least.Rep && d.Seq < least.Seq {
				first, least = false, d
			}
		}
		s.Entries = append(s.Entries, m[least])
		delete(m, least)
	}
	return s
}

// someEntry is an entry of a dot, with any other parts, which are right or, if asked for, may be wrong.
func someEntry(r *rand.Rand, d api.Dot, wrong bool) api.Entry {
	paths := []string{"name", "a", "a/7", "a/7/c", "a/8/c", "b/7/c", "a/7/c/d/e/f", longest}
	p := paths[r.Intn(len(paths))]
	x := []api.Entry{reg(0, 0, p, r.Intn(9)), tag(0, 0, p, "ada"), count(0, 0, p, -r.Intn(9)), {Path: p, Kind: api.FieldReg, Val: api.Value{Kind: api.ValBool, Int: 1}}}[r.Intn(4)]
	x.Dot = d
	if wrong {
		switch r.Intn(9) {
		case 0:
			x.Path = []string{"", "*", "a/*/c", "A", "a//b", "/", strings.Repeat("x", 200)}[r.Intn(7)]
		case 1:
			x.Kind = []int{0, 4, -1, math.MaxInt}[r.Intn(4)]
		case 2:
			x.Val = []api.Value{{}, {Kind: 3, Int: 2}, {Kind: 9}, {Kind: 1, Text: "a"}}[r.Intn(4)]
		case 3:
			x.Ver = []api.Dot{at(-1, 1), at(64, 1), at(0, -1), at(1, 0)}[r.Intn(4)]
		}
	}
	return x
}

// drawn: states in order, of up to a dozen dots; right, or, if asked for, with entries that may be wrong.
func drawn(seed int64, n int, wrong bool) []api.State {
	r := rand.New(rand.NewSource(seed))
	l := []api.State{{}, {Entries: []api.Entry{}, Ctx: api.Ctx{Vec: []int{}, Cloud: []api.Dot{}}}}
	for range n {
		var known []api.Dot
		m := map[api.Dot]api.Entry{}
		for range r.Intn(13) {
			d := at([]int{0, 0, 1, 2, 5, 63}[r.Intn(6)], 1+r.Intn(6))
			known = append(known, d)
			if r.Intn(3) > 0 {
				m[d] = someEntry(r, d, wrong)
			}
		}
		l = append(l, plainState(m, ctx.Of(known...)))
	}
	return l
}

// edges: states that are right, with the greatest replica and number, and the longest parts.
func edges() []api.State {
	most := api.MaxSeq
	all := of(slices.Repeat([]int{most}, 64))
	far := reg(63, most, longest, math.MinInt)
	far.Ver = at(63, most)
	long := tag(0, most, "a", strings.Repeat("x", api.MaxText))
	return []api.State{
		state(of([]int{1}), reg(0, 1, "a", 0)),
		state(all),
		state(all, reg(0, 1, "_", 0), long, far),
		state(of(nil, at(0, most)), long),
		state(of([]int{most - 2}, at(0, most), at(63, most)), long, far),
		state(of(nil, at(0, 2), at(63, 2)), reg(0, 2, "a", 0), reg(63, 2, "a", 0)),
		seven,
	}
}

// rights: states that are right.
func rights() []api.State {
	return slices.Concat(edges(), drawn(1, 1500, false))
}

// orders: states in order, right or not.
func orders() []api.State {
	return slices.Concat(edges(), drawn(2, 1500, true))
}

// wrongEntries: states in order that are not right, by one part of one entry alone.
func wrongEntries() []api.State {
	var l []api.State
	for k := range seven.Entries {
		add := func(change func(x *api.Entry)) {
			s := clone(seven)
			change(&s.Entries[k])
			l = append(l, s)
		}
		for _, p := range []string{"", "A", "a/*", "a//b", "a/b/c/d/e/f/g", longest + "a"} {
			add(func(x *api.Entry) { x.Path = p })
		}
		for _, kind := range []int{0, 4, 5, -1, 1 << 32, math.MinInt} {
			add(func(x *api.Entry) { x.Kind = kind })
		}
		for _, v := range []api.Value{{}, {Kind: 1, Text: "a"}, {Kind: 2, Int: 1}, {Kind: 3, Int: 2}, {Kind: 4}} {
			add(func(x *api.Entry) { x.Val = v })
		}
		for _, d := range []api.Dot{at(1, 0), at(-1, 1), at(64, 1), at(0, api.MaxSeq+1)} {
			add(func(x *api.Entry) { x.Ver = d })
		}
		add(func(x *api.Entry) { x.Kind, x.Val = api.FieldCtr, api.Value{Kind: api.ValText} })
	}
	return l
}

// unordered: states that are not in order, one for each thing that may be amiss, all entries being right.
func unordered() []api.State {
	a, b, c := reg(0, 2, "a", 0), tag(1, 1, "a/7/c", "ada"), count(1, 4, "seen", 1)
	known := of([]int{2, 1}, at(1, 4))
	l := []api.State{
		state(known, b, a),
		state(known, a, c, b),
		state(known, c, b, a),
		state(known, a, a),
		state(known, a, b, b, c),
		state(known, a, reg(0, 2, "b", 1)),
		state(api.Ctx{}, a),
		state(of([]int{1, 1}, at(1, 4)), a, b, c), // each dot is known but one
		state(of([]int{2}, at(1, 4)), a, b, c),
		state(of([]int{2, 1}), a, b, c),
		state(of([]int{2, 1}, at(1, 3)), a, b, c),
		state(of([]int{2, 1}, at(1, 5)), a, b, c),
		state(of([]int{2, 1}, at(2, 4)), a, b, c),
	}
	for _, c := range []api.Ctx{ // sets that are not right, with the dots of what was left, and without
		of([]int{2, 1, 0}, at(1, 4)),
		of([]int{2, 1, -1}, at(1, 4)),
		of([]int{2, 1, api.MaxSeq + 1}, at(1, 4)),
		of([]int{2, 1}, at(1, 4), at(1, 4)),
		of([]int{2, 1}, at(1, 4), at(1, 3)),
		of([]int{2, 1}, at(1, 4), at(64, 2)),
		of([]int{2, 1}, at(1, 2), at(1, 4)),
		of([]int{2, 1}, at(0, 0), at(1, 4)),
		of([]int{2, 1}, at(0, 1), at(1, 4)),
		of(nil, at(0, 2), at(1, 1), at(1, 4)),
		of(slices.Repeat([]int{9}, 65)),
	} {
		l = append(l, state(c), state(c, a, b), state(c, reg(0, 2, "a", 0), tag(1, 1, "a", "b"), count(1, 4, "seen", 1)))
	}
	return l
}

// wrongs: states that are not right, in order or not, and some of which all is any.
func wrongs() []api.State {
	l := slices.Concat(wrongEntries(), unordered())
	for _, d := range []api.Dot{{}, at(0, -1), at(-1, 1), at(64, 1), at(0, api.MaxSeq+1), at(math.MinInt, math.MaxInt)} { // dots that no event has
		x := reg(d.Rep, d.Seq, "a", 0)
		l = append(l, state(of([]int{2}), x), state(of([]int{2}, d), x), state(api.Ctx{}, x), state(of(nil, d), x))
	}
	r := rand.New(rand.NewSource(3))
	some := func() int { return []int{-1, 0, 1, 2, 3, 64, math.MinInt, math.MaxInt, api.MaxSeq + 1}[r.Intn(9)] }
	for range 200 {
		s := api.State{Entries: []api.Entry{reg(-1, 1, "a", 0)}}
		for range r.Intn(6) {
			s.Entries = append(s.Entries, someEntry(r, at(some(), some()), true))
		}
		for range r.Intn(80) {
			s.Ctx.Vec = append(s.Ctx.Vec, some())
		}
		for range r.Intn(6) {
			s.Ctx.Cloud = append(s.Ctx.Cloud, at(some(), some()))
		}
		l = append(l, s)
	}
	return l
}

// around: dots of which drawn states know some.
func around() []api.Dot {
	l := []api.Dot{{}, at(0, math.MaxInt), at(math.MaxInt, 1), at(math.MinInt, math.MinInt), at(0, api.MaxSeq), at(0, api.MaxSeq+1), at(63, api.MaxSeq)}
	for _, rep := range []int{-1, 0, 1, 2, 3, 5, 63, 64} {
		for seq := -1; seq <= 7; seq++ {
			l = append(l, at(rep, seq))
		}
	}
	return l
}

func TestRight(t *testing.T) { // P8.1
	for _, s := range rights() {
		if !Right(s) {
			t.Errorf("%+v is not right", s)
		}
	}
	for _, s := range wrongs() {
		if Right(s) {
			t.Errorf("%+v is right", s)
		}
	}
	for _, s := range orders() {
		if got, want := Right(s), plainRight(s); got != want {
			t.Errorf("whether %+v is right: %t", s, got)
		}
	}
}

// shapes: states of small numbers, in order or not.
func shapes() []api.State {
	var sets []api.Ctx
	for a := -1; a <= 2; a++ {
		for b := -1; b <= 2; b++ {
			sets = append(sets, of([]int{a, b}), of([]int{a}, at(1, b)), of([]int{a}, at(0, b), at(1, 2)), of(nil, at(0, a), at(1, b)), of([]int{b, a}, at(0, 3)))
		}
	}
	dots := []api.Dot{at(0, 0), at(0, 1), at(0, 2), at(0, 3), at(1, 1), at(1, 2)}
	var l []api.State
	for _, c := range sets {
		l = append(l, state(c))
		for _, d := range dots {
			l = append(l, state(c, reg(d.Rep, d.Seq, "a", 1)))
			for _, e := range dots {
				l = append(l, state(c, reg(d.Rep, d.Seq, "a", 1), tag(e.Rep, e.Seq, "b", "c")))
			}
		}
	}
	return l
}

func TestRightOfAnyState(t *testing.T) { // P8.1
	many := 0
	for _, s := range shapes() {
		want := plainRight(s)
		if got := Right(s); got != want {
			t.Fatalf("whether %+v is right: %t", s, got)
		}
		if want {
			many++
		}
	}
	if many < 50 {
		t.Errorf("%d of these are right: too few to tell", many)
	}
}

func TestGet(t *testing.T) { // P8.2
	for _, x := range seven.Entries {
		if got, there := Get(seven, x.Dot); got != x || !there {
			t.Errorf("Get of %v: %+v, %t", x.Dot, got, there)
		}
	}
	for _, d := range []api.Dot{at(0, 1), at(1, 2), at(1, 4), at(5, 1), at(5, 3), at(6, 2), {}, at(-1, 1), at(64, 2), at(math.MinInt, math.MaxInt), at(math.MaxInt, math.MinInt)} { // known or not, these left nothing
		for _, s := range []api.State{seven, {}} {
			if got, there := Get(s, d); got != (api.Entry{}) || there {
				t.Errorf("Get of %v: %+v, %t", d, got, there)
			}
		}
	}
	for _, s := range orders() {
		m := left(s)
		for _, d := range around() {
			want, holds := m[d]
			if got, there := Get(s, d); got != want || there != holds {
				t.Fatalf("Get of %v of %+v: %+v, %t", d, s, got, there)
			}
		}
	}
}

func TestWith(t *testing.T) { // P8.3
	a, b, c := reg(0, 2, "a", 1), tag(1, 1, "b", "ada"), count(1, 3, "c", 5)
	known := of([]int{2, 3})
	for _, x := range []struct {
		s    api.State
		x    api.Entry
		want api.State
	}{
		{api.State{}, reg(0, 1, "a", 1), state(of([]int{1}), reg(0, 1, "a", 1))},
		{api.State{}, a, state(of(nil, at(0, 2)), a)},
		{state(known), b, state(known, b)},
		{state(known, b, c), a, state(known, a, b, c)}, // at the beginning, in the midst, at the end
		{state(known, a, c), b, state(known, a, b, c)},
		{state(known, a, b), c, state(known, a, b, c)},
		{state(known, a, b, c), reg(0, 2, "z", 9), state(known, reg(0, 2, "z", 9), b, c)}, // in the place of another one
		{state(known, a, b, c), reg(1, 1, "z", 9), state(known, a, reg(1, 1, "z", 9), c)},
		{state(known, a, b, c), reg(1, 3, "z", 9), state(known, a, b, reg(1, 3, "z", 9))},
		{state(known, a, b, c), b, state(known, a, b, c)},
		{state(of([]int{2, 1}, at(1, 3)), a), reg(1, 2, "z", 9), state(known, a, reg(1, 2, "z", 9))}, // what is known closes up
		{state(of([]int{2}), a), c, state(of([]int{2}, at(1, 3)), a, c)},
		{state(of([]int{api.MaxSeq - 1})), reg(0, api.MaxSeq, "a", 1), state(of([]int{api.MaxSeq}), reg(0, api.MaxSeq, "a", 1))},
		{state(known, b), api.Entry{Dot: at(0, 1)}, state(known, api.Entry{Dot: at(0, 1)}, b)}, // an entry that is not right
		{state(known, b), api.Entry{}, state(known, api.Entry{}, b)},                           // dots that no event has are not known, as ctx.Add has it
		{state(known, b), reg(-1, 5, "a", 1), state(known, reg(-1, 5, "a", 1), b)},
		{state(known, b), reg(1, api.MaxSeq+1, "a", 1), state(known, b, reg(1, api.MaxSeq+1, "a", 1))},
		{state(known, b), reg(math.MaxInt, math.MinInt, "a", 1), state(known, b, reg(math.MaxInt, math.MinInt, "a", 1))},
	} {
		if got := With(x.s, x.x); !plainSame(got, x.want) {
			t.Errorf("%+v with %+v: %+v, want %+v", x.s, x.x, got, x.want)
		}
	}
}

func TestWithOfAnyState(t *testing.T) { // P8.3
	r := rand.New(rand.NewSource(4))
	for _, s := range orders() {
		for _, d := range around() {
			if r.Intn(4) > 0 {
				continue
			}
			x := someEntry(r, d, true)
			m := left(s)
			m[d] = x
			if got, want := With(s, x), plainState(m, ctx.Add(s.Ctx, d)); !plainSame(got, want) {
				t.Fatalf("%+v with %+v: %+v, want %+v", s, x, got, want)
			}
		}
	}
}

func TestWithout(t *testing.T) { // P8.4
	a, b, c := reg(0, 2, "a", 1), tag(1, 1, "b", "ada"), count(1, 3, "c", 5)
	known := of([]int{2, 3})
	all := state(known, a, b, c)
	for _, x := range []struct {
		s    api.State
		l    []api.Dot
		want api.State
	}{
		{all, nil, all},
		{all, []api.Dot{}, all},
		{all, []api.Dot{a.Dot}, state(known, b, c)},
		{all, []api.Dot{b.Dot}, state(known, a, c)},
		{all, []api.Dot{c.Dot}, state(known, a, b)},
		{all, []api.Dot{c.Dot, a.Dot}, state(known, b)},
		{all, []api.Dot{c.Dot, b.Dot, a.Dot, b.Dot}, state(known)},                            // in any order, twice
		{all, []api.Dot{at(0, 1), at(1, 2)}, all},                                             // known, but they left nothing
		{all, []api.Dot{at(5, 2)}, state(of([]int{2, 3}, at(5, 2)), a, b, c)},                 // the chapter's example
		{all, []api.Dot{at(1, 5), a.Dot, at(1, 4)}, state(of([]int{2, 5}), b, c)},             // what is known closes up
		{all, []api.Dot{{}, at(-1, 1), at(64, 1), at(0, -1), at(1, api.MaxSeq+1)}, all},       // dots that no event has
		{all, []api.Dot{at(math.MinInt, math.MaxInt), b.Dot, at(9, 0)}, state(known, a, c)},   //
		{api.State{}, []api.Dot{at(1, 1), at(0, 2)}, state(of([]int{0, 1}, at(0, 2)))},        //
		{api.State{}, nil, api.State{}},                                                       //
		{state(of([]int{2, 1}, at(1, 3)), c), []api.Dot{at(1, 2)}, state(of([]int{2, 3}), c)}, //
	} {
		if got := Without(x.s, x.l...); !plainSame(got, x.want) {
			t.Errorf("%+v without %v: %+v, want %+v", x.s, x.l, got, x.want)
		}
	}
}

func TestWithoutOfAnyState(t *testing.T) { // P8.4
	r := rand.New(rand.NewSource(5))
	dots := around()
	for _, s := range orders() {
		for range 10 {
			var l []api.Dot
			m := left(s)
			for range r.Intn(8) {
				d := dots[r.Intn(len(dots))]
				if len(s.Entries) > 0 && r.Intn(2) == 0 {
					d = s.Entries[r.Intn(len(s.Entries))].Dot
				}
				l = append(l, d)
				delete(m, d)
			}
			if got, want := Without(s, l...), plainState(m, ctx.Join(s.Ctx, ctx.Of(l...))); !plainSame(got, want) {
				t.Fatalf("%+v without %v: %+v, want %+v", s, l, got, want)
			}
		}
	}
}

func TestPut(t *testing.T) { // P8.5
	for _, x := range []struct {
		s    api.State
		want string
	}{
		{api.State{}, "\x00\x00\x00"},
		{state(of([]int{0, 2}, at(1, 4))), "\x02\x00\x04\x01\x02\x08\x00"},
		{state(of([]int{0, 2}), reg(1, 2, "a/b", 5)), "\x02\x00\x04\x00\x01\x02\x04\x03a/b\x01\x01\x0a\x00\x00"},
		{state(of([]int{1}, at(2, 7)), reg(0, 1, "a", -1), tag(2, 7, "tags", "ab")), "\x01\x02\x01\x04\x0e\x02\x00\x02\x01a\x01\x01\x01\x00\x00\x04\x0e\x04tags\x02\x02\x02ab\x06\x02"},
		{state(api.Ctx{}, api.Entry{}), "\x00\x00\x01\x00\x00\x00\x00\x00\x00\x00"}, // what is not right is put, too
		{state(of([]int{-1}, at(0, 0)), reg(1, 2, "b", 0), reg(0, -1, "*", 0)), "\x01\x01\x01\x00\x00\x02\x02\x04\x01b\x01\x01\x00\x00\x00\x00\x01\x01*\x01\x01\x00\x00\x00"},
		{state(api.Ctx{}, make([]api.Entry, 200)...), "\x00\x00\xc8\x01" + strings.Repeat("\x00", 1400)},
	} {
		for _, b := range []string{"", "b", "\x80\xff"} {
			if got := Put(b, x.s); got != b+x.want {
				t.Errorf("Put behind %x of %+v: %x, want %x", b, x.s, got, x.want)
			}
		}
	}
	for _, s := range slices.Concat(orders(), wrongs(), shapes()) {
		want := varint.Put(ctx.Put("b", s.Ctx), uint64(len(s.Entries)))
		for _, x := range s.Entries {
			want = entry.Put(want, x)
		}
		if got := Put("b", s); got != want {
			t.Fatalf("Put behind b of %+v: %x, want %x", s, got, want)
		}
	}
}

// tails: what may follow a state; some look like parts of one.
var tails = []string{"", "a", "\x00", "\x00\x00\x00", "\x02\x04\x03a/b", "\x80", "\xff\xff\xff\xff\xff\xff\xff\xff\xff\xff\xff"}

// nine: a number that no byte has ended yet, and that only one byte may end.
var nine = strings.Repeat("\x80", 9)

func TestTake(t *testing.T) { // P8.6: what is taken
	for _, x := range []struct {
		s    string
		want api.State
	}{
		{"\x00\x00\x00", api.State{}},
		{"\x02\x00\x04\x01\x02\x08\x00", state(of([]int{0, 2}, at(1, 4)))},
		{"\x02\x00\x04\x00\x01\x02\x04\x03a/b\x01\x01\x0a\x00\x00", state(of([]int{0, 2}), reg(1, 2, "a/b", 5))},
		{"\x01\x02\x01\x04\x0e\x02\x00\x02\x01a\x01\x01\x01\x00\x00\x04\x0e\x04tags\x02\x02\x02ab\x06\x02", state(of([]int{1}, at(2, 7)), reg(0, 1, "a", -1), tag(2, 7, "tags", "ab"))},
	} {
		for _, tail := range tails {
			s, rest, err := Take(x.s + tail)
			if !plainSame(s, x.want) || rest != tail || err != api.OK {
				t.Errorf("Take of %x with %x behind: %+v, %x, %d, want %+v", x.s, tail, s, rest, err, x.want)
			}
		}
	}
}

// untaken takes b, which must be told by that error, with nothing beside it.
func untaken(t *testing.T, b string, want api.Errno) {
	t.Helper()
	s, rest, err := Take(b)
	if len(s.Entries)+len(s.Ctx.Vec)+len(s.Ctx.Cloud) > 0 || rest != "" || err != want {
		t.Errorf("Take of %x: %+v, %x, %d, want %d", b, s, rest, err, want)
	}
}

func TestTakeTellsTheFirstError(t *testing.T) { // P8.6: one by one, whatever else is wrong behind it
	known := "\x01\x04\x00"                // 0.1 and 0.2
	one := "\x00\x02\x01a\x01\x01\x0a\x00" // 0.1 a=5, but for the last byte
	for _, x := range []struct {
		begin, part string
		want        api.Errno
	}{
		{"", "", api.ErrShort},
		{"", "\x80", api.ErrShort},
		{"", "\x80\x00", api.ErrForm},
		{"", nine + "\x02", api.ErrLong},
		{"", "\x41", api.ErrLong},
		{"", "\x01", api.ErrShort},
		{"", "\x01\x00\x00", api.ErrForm}, // a nought at the end of Vec
		{"", "\x00\x02\x00\x06\x00\x04", api.ErrForm},
		{"", "\x00\x01", api.ErrShort},
		{known, "", api.ErrShort},
		{known, "\x80", api.ErrShort},
		{known, "\x81\x00", api.ErrForm},
		{known, nine + "\x02", api.ErrLong},
		{known, "\x01", api.ErrShort},
		{known, "\x03\x80\x00", api.ErrShort}, // three entries in two bytes: ahead of what is wrong with the first one
		{known, "\x02\x80\x00", api.ErrForm},  // two in two bytes: the first one has a longer form
		{known, "\xff\xff\xff\xff\xff\xff\xff\xff\xff\x01", api.ErrShort},
		{known, nine + "\x01" + one + "\x00", api.ErrShort},
		{known + "\x01", one, api.ErrShort},
		{known + "\x01", one + "\x80", api.ErrShort},
		{known + "\x02", one + "\x00", api.ErrShort},
		{known + "\x02", one + "\x00\x80", api.ErrShort},
		{known + "\x02" + one + "\x00", "\x80\x00\x00\x00\x00\x00\x00", api.ErrForm},
		{known + "\x02" + one + "\x00", nine + "\x02", api.ErrLong},
		{known + "\x02" + one + "\x00", "\x00\x04\x67", api.ErrLong},                   // a path of 103 bytes
		{known + "\x02" + one + "\x00", "\x00\x02\x67", api.ErrLong},                   // behind a dot that is there: that is told at the end
		{known + "\x02" + one + "\x00", "\x00\x08\x67", api.ErrLong},                   // behind one that is not known, likewise
		{known + "\x02", "\x00\x02\x01A\x01\x01\x0a\x00\x00" + one, api.ErrForm},       // an entry that is not right is told ahead of one that is short
		{known + "\x02", "\x00\x02\x01a\x04\x01\x0a\x00\x00\x00\x04", api.ErrForm},     // likewise
		{known + "\x02", "\x00\x00\x01a\x01\x01\x0a\x00\x00" + one, api.ErrForm},       // and one without a dot
		{known + "\x02", "\x00\x08\x01a\x01\x01\x0a\x00\x00" + one, api.ErrShort},      // one that is not known is not
		{known + "\x02", "\x00\x02\x01a\x01\x02\xc9\x01" + one, api.ErrLong},           // a text of 201 bytes
		{known + "\x01", "\x00\x02\x01a\x03\x02\x00\x00\x00", api.ErrForm},             // a counter of a text
		{known + "\x01", "\x00\x02\x01a\x01\x01\x0a\x80\x01\x02", api.ErrForm},         // the version 64.1
		{known + "\x01", "\x00\x02\x01a\x01\x01\x0a\x00" + nine + "\x02", api.ErrLong}, //
	} {
		untaken(t, x.begin+x.part, x.want)
	}
}

func TestTakeOfWrongStates(t *testing.T) { // P8.6: what is told by ErrForm, whatever follows
	for _, s := range unordered() { // of entries that are right: what is put is all that they have
		want := api.ErrForm
		if len(s.Ctx.Vec) > 64 {
			want = api.ErrLong
		}
		for _, tail := range tails {
			untaken(t, Put("", s)+tail, want)
		}
	}
}

// plainTake is Take by P8.6's words, one thing behind another.
func plainTake(b string) (api.State, string, api.Errno) {
	var s api.State
	var many uint64
	c, b, err := ctx.Take(b)
	s.Ctx = c
	if err == api.OK {
		many, b, err = varint.Take(b)
	}
	if err == api.OK && many > uint64(len(b)) {
		err = api.ErrShort
	}
	for k := uint64(0); err == api.OK && k < many; k++ {
		var x api.Entry
		x, b, err = entry.Take(b)
		s.Entries = append(s.Entries, x)
	}
	if err == api.OK && !plainRight(s) {
		err = api.ErrForm
	}
	if err != api.OK {
		return api.State{}, "", err
	}
	return s, b, api.OK
}

// someBytes: all texts of up to two bytes, some of more, and states, right and wrong, whole, or cut off, or with some of their bytes changed.
func someBytes() []string {
	r := rand.New(rand.NewSource(6))
	l := []string{""}
	for a := range 256 {
		l = append(l, string([]byte{byte(a)}))
		for b := range 256 {
			l = append(l, string([]byte{byte(a), byte(b)}))
		}
	}
	for range 30000 {
		b := make([]byte, r.Intn(20))
		for k := range b {
			b[k] = byte(r.Intn(1 << (1 + r.Intn(8))))
		}
		l = append(l, string(b))
	}
	short := state(of([]int{2}, at(1, 2)), reg(0, 1, "a", 5), reg(0, 2, "b", 6), reg(1, 2, "c", 7))
	for _, s := range slices.Concat(drawn(7, 8000, false), drawn(8, 4000, true), shapes(), wrongs(), slices.Repeat([]api.State{short}, 30000)) {
		b := []byte(Put("", s))
		l = append(l, string(b), string(b)+"rest", string(b[:r.Intn(len(b))]))
		for range 1 + r.Intn(3) {
			b[r.Intn(len(b))] = byte(r.Intn(1 << (1 + r.Intn(8))))
		}
		l = append(l, string(b))
	}
	return l
}

func TestTakeOfAnyBytes(t *testing.T) { // P8.6, and R6: what is taken has one form
	for _, b := range someBytes() {
		s, rest, err := Take(b)
		want, more, f := plainTake(b)
		if !plainSame(s, want) || rest != more || err != f {
			t.Fatalf("Take of %x: %+v, %x, %d, want %+v, %x, %d", b, s, rest, err, want, more, f)
		}
		if err == api.OK && (!Right(s) || Put("", s)+rest != b) {
			t.Fatalf("Take of %x: %+v, which is put as %x", b, s, Put("", s))
		}
	}
}

func TestPutAndTaken(t *testing.T) { // P8.10: what is put is taken, whatever follows
	for _, s := range rights() {
		b := Put("", s)
		for _, tail := range append(tails, b) {
			got, rest, err := Take(b + tail)
			if !plainSame(got, s) || rest != tail || err != api.OK {
				t.Fatalf("Take of %+v with %x behind: %+v, %x, %d", s, tail, got, rest, err)
			}
		}
	}
}

func TestBeginningsAreNotTaken(t *testing.T) { // P8.6
	for _, s := range slices.Concat(edges(), drawn(9, 200, false)) {
		b := Put("", s)
		for n := range len(b) {
			untaken(t, b[:n], api.ErrShort)
		}
	}
}

func TestWhatIsRightStaysSo(t *testing.T) { // P8.10
	r := rand.New(rand.NewSource(10))
	for range 200 {
		var s api.State
		for range 60 {
			d := at([]int{0, 1, 2, 63}[r.Intn(4)], 1+r.Intn(9))
			was, c := clone(s), s.Ctx
			if r.Intn(3) > 0 {
				x := someEntry(r, d, false)
				s = With(s, x)
				if got, there := Get(s, d); got != x || !there {
					t.Fatalf("%+v with %+v: %+v", was, x, s)
				}
			} else {
				s = Without(s, d, at(r.Intn(70)-3, r.Intn(9)-3))
				if _, there := Get(s, d); there {
					t.Fatalf("%+v without %v: %+v", was, d, s)
				}
			}
			if !Right(s) || !ctx.Has(s.Ctx, d) || !ctx.Within(c, s.Ctx) {
				t.Fatalf("%+v, with %v or without: %+v", was, d, s)
			}
		}
	}
}

func TestSame(t *testing.T) { // P8.7
	if !Same(api.State{}, state(of([]int{}, []api.Dot{}...), []api.Entry{}...)) {
		t.Error("nil and empty lists are the same")
	}
	others := []api.State{{}, state(seven.Ctx), state(api.Ctx{}, seven.Entries...), state(of([]int{2, 3}, at(1, 5)), seven.Entries...), state(of([]int{2, 4}, at(1, 5), at(5, 2)), seven.Entries...)}
	add := func(change func(s *api.State)) {
		s := clone(seven)
		change(&s)
		others = append(others, s)
	}
	for k := range seven.Entries {
		add(func(s *api.State) { s.Entries = slices.Delete(s.Entries, k, k+1) })
		add(func(s *api.State) { s.Entries = slices.Insert(s.Entries, k, s.Entries[k]) })
		add(func(s *api.State) { s.Entries[0], s.Entries[k] = s.Entries[k], s.Entries[0] })
		add(func(s *api.State) { s.Entries[k].Dot.Rep++ })
		add(func(s *api.State) { s.Entries[k].Dot.Seq++ })
		add(func(s *api.State) { s.Entries[k].Path += "a" })
		add(func(s *api.State) { s.Entries[k].Kind += 4 })
		add(func(s *api.State) { s.Entries[k].Val.Kind += 4 })
		add(func(s *api.State) { s.Entries[k].Val.Int++ })
		add(func(s *api.State) { s.Entries[k].Val.Text += "a" })
		add(func(s *api.State) { s.Entries[k].Ver.Rep++ })
		add(func(s *api.State) { s.Entries[k].Ver.Seq++ })
	}
	for _, s := range others {
		if want := plainSame(s, seven); Same(s, seven) != want || Same(seven, s) != want || !Same(s, clone(s)) {
			t.Errorf("%+v and %+v", s, seven)
		}
	}
	for _, l := range [][]api.State{drawn(11, 150, true), shapes()[:200], slices.Concat(wrongs(), edges())} {
		for _, a := range l {
			for _, b := range l {
				if got, want := Same(a, b), plainSame(a, b); got != want {
					t.Fatalf("whether %+v and %+v are the same: %t", a, b, got)
				}
			}
		}
	}
}

func TestAt(t *testing.T) { // P8.8
	e := seven.Entries
	for _, x := range []struct {
		pattern string
		want    []api.Entry
	}{
		{"name", e[:1]},
		{"a", []api.Entry{e[1], e[2], e[4]}},
		{"a/7", []api.Entry{e[1], e[4]}},
		{"a/*", []api.Entry{e[1], e[2], e[4]}},
		{"a/*/c", []api.Entry{e[1], e[2]}},
		{"a/7/c", e[1:2]},
		{"a/7/*", e[1:2]},
		{"a/7/c/d", nil},
		{"a/9", nil},
		{"nam", nil},
		{"*", e}, // no pattern, but all begin with it
		{"*/7", []api.Entry{e[1], e[4]}},
		{"", nil},
		{"a/", nil},
		{"/", nil},
		{strings.Repeat("*/", 500), nil},
	} {
		if got := At(seven, x.pattern); !slices.Equal(got, x.want) {
			t.Errorf("at %s: %+v, want %+v", x.pattern, got, x.want)
		}
		if got := At(api.State{}, x.pattern); len(got) > 0 {
			t.Errorf("at %s of nothing: %+v", x.pattern, got)
		}
	}
	for _, s := range orders() {
		for _, pattern := range []string{"a", "name", "a/7", "a/*", "a/*/c", "*", "*/7/c", "", "a/*/c/d", "a//b", longest, "a/7/c/d/e/f/g"} {
			var want []api.Entry
			for _, x := range s.Entries {
				if path.Begins(x.Path, pattern) {
					want = append(want, x)
				}
			}
			if got := At(s, pattern); !slices.Equal(got, want) {
				t.Fatalf("at %s of %+v: %+v, want %+v", pattern, s, got, want)
			}
		}
	}
}

func TestText(t *testing.T) { // P8.9
	for _, x := range []struct {
		s    api.State
		want string
	}{
		{api.State{}, ""},
		{state(of([]int{2}, at(1, 4))), ""}, // what is known alone is not told
		{state(of([]int{0, 2}), reg(1, 2, "a/b", 5)), "1.2 a/b=5@0.0\n"},
		{seven, "0.2 name=7@0.0\n1.1 a/7/c+'ada@3.1\n1.3 a/8/c+'bob@3.1\n1.5 seen#-5@0.9\n5.2 a/7=0@0.0\n"},
		{state(api.Ctx{}, api.Entry{}, reg(1, 1, "b", 1), reg(0, 1, "a b", 1), reg(0, 1, "a b", 1)), "0.0 ?-@0.0\n1.1 b=1@0.0\n0.1 a b=1@0.0\n0.1 a b=1@0.0\n"}, // what is not in order is told, too
	} {
		if got := Text(x.s); got != x.want {
			t.Errorf("Text of %+v: %q, want %q", x.s, got, x.want)
		}
	}
	for _, s := range slices.Concat(orders(), wrongs()) {
		want := ""
		for _, x := range s.Entries {
			want += entry.Text(x) + "\n"
		}
		if got := Text(s); got != want {
			t.Fatalf("Text of %+v: %q, want %q", s, got, want)
		}
	}
}

// roomy is s with room behind its lists; all of it, with what lies in these rooms.
func roomy(s api.State) (api.State, api.State) {
	all := clone(s)
	all.Entries = append(all.Entries, reg(7, 7, "room", 7), reg(7, 8, "room", 7), reg(7, 9, "room", 7))
	all.Ctx.Vec = append(all.Ctx.Vec, 7, 7, 7)
	all.Ctx.Cloud = append(all.Ctx.Cloud, at(7, 7), at(7, 8), at(7, 9))
	return state(of(all.Ctx.Vec[:len(s.Ctx.Vec)], all.Ctx.Cloud[:len(s.Ctx.Cloud)]...), all.Entries[:len(s.Entries)]...), all
}

// spoil writes over all that s has, and over the room behind its lists.
func spoil(s api.State) {
	spoilEntries(s.Entries)
	for k := range s.Ctx.Vec[:cap(s.Ctx.Vec)] {
		s.Ctx.Vec[:cap(s.Ctx.Vec)][k] = -9
	}
	for k := range s.Ctx.Cloud[:cap(s.Ctx.Cloud)] {
		s.Ctx.Cloud[:cap(s.Ctx.Cloud)][k] = at(-9, -9)
	}
}

// spoilEntries writes over all of l, and over the room behind it.
func spoilEntries(l []api.Entry) {
	for k := range l[:cap(l)] {
		l[:cap(l)][k] = reg(-9, -9, "spoilt", -9)
	}
}

func TestStatesAreNotChanged(t *testing.T) { // R3: nor the room behind their lists, and answers are new memory
	for _, s := range slices.Concat(drawn(12, 150, true), edges(), wrongs()) {
		one, all := roomy(s)
		had := clone(all)
		known := append(slices.Clone(dots(s.Entries)), at(1, 3), at(0, 1))
		gone, hadGone := known[:len(known)-1], slices.Clone(known)
		slices.Reverse(gone)
		slices.Reverse(hadGone[:len(gone)])
		Right(one)
		Same(one, one)
		Put("b", one)
		Text(one)
		for k := range len(gone) + 1 {
			spoil(Without(one, gone[:k]...))
			spoil(Without(one, gone[k:]...))
		}
		for _, d := range known {
			Get(one, d)
			spoil(With(one, reg(d.Rep, d.Seq, "a", 1)))
			spoil(With(one, reg(d.Rep, d.Seq+1, "a", 1)))
		}
		spoil(With(one, api.Entry{}))
		spoil(With(one, reg(64, 1, "a", 1)))
		spoilEntries(At(one, "a"))
		spoilEntries(At(one, "*"))
		if !plainSame(all, had) || !plainSame(one, s) || !slices.Equal(known, hadGone) {
			t.Fatalf("%+v was changed: %+v, %v", had, all, known)
		}
	}
}

func TestStatesNotInOrder(t *testing.T) { // R1: all calls end
	for _, s := range slices.Concat(wrongs(), shapes()) {
		Right(s)
		Take(Put("", s))
		At(s, "a/*")
		for _, d := range around() {
			Get(s, d)
			With(s, reg(d.Rep, d.Seq, "a", 1))
			Without(s, d, d, at(0, 1))
		}
	}
}

func TestLargeStates(t *testing.T) { // P8.1 to P8.8: of many entries, whose dots stand by themselves
	const n = 1 << 16
	var s api.State
	for k := range n {
		x := reg(k/(n/64), 2+2*(k%(n/64)), []string{"a", "b/7"}[k%2], k)
		s.Entries, s.Ctx.Cloud = append(s.Entries, x), append(s.Ctx.Cloud, x.Dot)
	}
	if !Right(s) {
		t.Error("not right")
	}
	got, rest, err := Take(Put("", s) + "rest")
	if !plainSame(got, s) || rest != "rest" || err != api.OK {
		t.Errorf("Take: %d, %q, %d", len(got.Entries), rest, err)
	}
	if got := Without(s, dots(s.Entries)...); len(got.Entries) > 0 || !ctx.Same(got.Ctx, s.Ctx) {
		t.Errorf("without all: %d", len(got.Entries))
	}
	if got := With(s, reg(5, 1, "z", 1)); len(got.Entries) != n+1 || len(got.Ctx.Cloud) != n-1 || !Right(got) {
		t.Errorf("with one more: %d", len(got.Entries))
	}
	if got := At(s, "b"); len(got) != n/2 {
		t.Errorf("at b: %d", len(got))
	}
	less := clone(s)
	less.Ctx.Cloud = slices.Delete(less.Ctx.Cloud, n/2, n/2+1)
	if Right(less) || Same(less, s) {
		t.Error("without one dot")
	}
}

func TestTheSameIsToldAgain(t *testing.T) { // R4
	tell := func() string {
		var b strings.Builder
		l := slices.Concat(drawn(13, 50, true), wrongs())
		for k, s := range l {
			other := l[len(l)-1-k]
			x, there := Get(s, at(0, 1))
			fmt.Fprintln(&b, Right(s), x, there, With(s, reg(0, 1, "a", 1)), Without(s, at(0, 1), at(1, 2)), Put("b", s), Same(s, other), At(s, "a"), Text(s))
			got, rest, err := Take(Put("", s) + "rest")
			fmt.Fprintln(&b, got, rest, err)
		}
		return b.String()
	}
	if tell() != tell() {
		t.Error("not the same")
	}
}
