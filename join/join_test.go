package join

import (
	"fmt"
	"math"
	"math/rand"
	"slices"
	"strings"
	"testing"

	"lorgnette/api"
	"lorgnette/ctx"
	"lorgnette/store"
)

// at is a dot, shortly.
func at(rep, seq int) api.Dot {
	return api.Dot{Rep: rep, Seq: seq}
}

// of is a set of dots as it is written down.
func of(vec []int, cloud ...api.Dot) api.Ctx {
	return api.Ctx{Vec: vec, Cloud: cloud}
}

// state is a state as it is written down.
func state(c api.Ctx, l ...api.Entry) api.State {
	return api.State{Entries: l, Ctx: c}
}

// reg is an entry that is right, if its dot and its path are.
func reg(rep, seq int, p string, n int) api.Entry {
	return api.Entry{Dot: at(rep, seq), Path: p, Kind: api.FieldReg, Val: api.Value{Kind: api.ValInt, Int: n}}
}

// tag is another one, of a set of texts.
func tag(rep, seq int, p, s string) api.Entry {
	return api.Entry{Dot: at(rep, seq), Path: p, Kind: api.FieldSet, Val: api.Value{Kind: api.ValText, Text: s}, Ver: at(3, 1)}
}

// clone is s in memory of its own.
func clone(s api.State) api.State {
	return state(of(slices.Clone(s.Ctx.Vec), slices.Clone(s.Ctx.Cloud)...), slices.Clone(s.Entries)...)
}

// plainSame is whether two states are the same, one thing behind another.
func plainSame(a, b api.State) bool {
	same := len(a.Entries) == len(b.Entries) && len(a.Ctx.Vec) == len(b.Ctx.Vec) && len(a.Ctx.Cloud) == len(b.Ctx.Cloud)
	for k := 0; same && k < len(a.Entries); k++ {
		same = a.Entries[k] == b.Entries[k]
	}
	for k := 0; same && k < len(a.Ctx.Vec); k++ {
		same = a.Ctx.Vec[k] == b.Ctx.Vec[k]
	}
	for k := 0; same && k < len(a.Ctx.Cloud); k++ {
		same = a.Ctx.Cloud[k] == b.Ctx.Cloud[k]
	}
	return same
}

// plainOrder is whether s is in order, by P8.1's words.
func plainOrder(s api.State) bool {
	order := ctx.Right(s.Ctx)
	for k, x := range s.Entries {
		order = order && ctx.Has(s.Ctx, x.Dot)
		if k > 0 {
			y := s.Entries[k-1]
			order = order && (y.Dot.Rep < x.Dot.Rep || y.Dot.Rep == x.Dot.Rep && y.Dot.Seq < x.Dot.Seq)
		}
	}
	return order
}

// left is what each dot left, of a state in which each dot stands once.
func left(s api.State) map[api.Dot]api.Entry {
	m := map[api.Dot]api.Entry{}
	for _, x := range s.Entries {
		m[x.Dot] = x
	}
	return m
}

// rising is all that dots left, by these.
func rising(m map[api.Dot]api.Entry) []api.Entry {
	var l []api.Entry
	for _, x := range m {
		l = append(l, x)
	}
	slices.SortFunc(l, func(x, y api.Entry) int {
		if x.Dot.Rep != y.Dot.Rep {
			return x.Dot.Rep - y.Dot.Rep
		}
		return x.Dot.Seq - y.Dot.Seq
	})
	return l
}

// plainJoin is Join by P9.1's words, dot by dot.
func plainJoin(a, b api.State) api.State {
	inA, inB, m := left(a), left(b), map[api.Dot]api.Entry{}
	for d, x := range inA {
		_, both := inB[d]
		if both || !ctx.Has(b.Ctx, d) {
			m[d] = x
		}
	}
	for d, x := range inB {
		_, both := inA[d]
		if !both && !ctx.Has(a.Ctx, d) {
			m[d] = x
		}
	}
	return state(ctx.Join(a.Ctx, b.Ctx), rising(m)...)
}

// plainGone is Gone by P9.5's words.
func plainGone(s, t api.State) []api.Dot {
	var l []api.Dot
	for _, x := range t.Entries {
		among := false
		for _, y := range s.Entries {
			among = among || y.Dot == x.Dot
		}
		if ctx.Has(s.Ctx, x.Dot) && !among {
			l = append(l, x.Dot)
		}
	}
	return l
}

// plainBeyond is Beyond by P9.4's words.
func plainBeyond(s api.State, c api.Ctx) []api.Entry {
	var l []api.Entry
	for _, x := range s.Entries {
		if !ctx.Has(c, x.Dot) {
			l = append(l, x)
		}
	}
	return l
}

// like is what a dot leaves wherever it left anything.
func like(d api.Dot) api.Entry {
	return []api.Entry{reg(d.Rep, d.Seq, "name", d.Seq), tag(d.Rep, d.Seq, "a/7/c", "ada")}[(d.Rep+d.Seq)%2]
}

// shapes: all states of these dots, each of which is not known, or known alone, or left what leave tells.
func shapes(dots []api.Dot, leave ...func(d api.Dot) api.Entry) []api.State {
	l := []api.State{{}}
	for _, d := range dots {
		var more []api.State
		for _, s := range l {
			more = append(more, s, store.Without(s, d))
			for _, f := range leave {
				more = append(more, store.With(s, f(d)))
			}
		}
		l = more
	}
	return l
}

// four: dots of which the second one is apart from the first one, and the others are of other replicas.
var four = []api.Dot{at(0, 1), at(0, 3), at(1, 1), at(63, 2)}

// unlikes: states that give one of two things to a dot.
func unlikes() []api.State {
	one := func(d api.Dot) api.Entry { return reg(d.Rep, d.Seq, "name", 1) }
	two := func(d api.Dot) api.Entry { return reg(d.Rep, d.Seq, "b", 2) }
	return shapes([]api.Dot{at(0, 1), at(0, 2), at(5, 3)}, one, two)
}

// drawn: states in order of up to twenty dots, which give unlike things to no dot, or, if asked for, do, and such as are not right.
func drawn(seed int64, n int, unlike bool) []api.State {
	r := rand.New(rand.NewSource(seed))
	var l []api.State
	for range n {
		m, c := map[api.Dot]api.Entry{}, api.Ctx{}
		for range r.Intn(21) {
			d := at([]int{0, 0, 1, 2, 63}[r.Intn(5)], 1+r.Intn(7))
			c = ctx.Add(c, d)
			x := like(d)
			if unlike {
				x = []api.Entry{x, reg(d.Rep, d.Seq, "b", r.Intn(3)), {Dot: d}, {Dot: d, Path: "*", Kind: 9}}[r.Intn(4)]
			}
			if r.Intn(3) > 0 {
				m[d] = x
			}
		}
		l = append(l, state(c, rising(m)...))
	}
	return l
}

// edges: states in order, with the greatest replica and number, and none of anything, which give unlike things to no dot.
func edges() []api.State {
	most := api.MaxSeq
	all := of(slices.Repeat([]int{most}, 64))
	return []api.State{
		{},
		{Entries: []api.Entry{}, Ctx: api.Ctx{Vec: []int{}, Cloud: []api.Dot{}}},
		state(all),
		state(all, like(at(0, 1)), like(at(0, most)), like(at(63, most))),
		state(of(nil, at(0, most), at(63, most)), like(at(63, most))),
		state(of(nil, at(0, most), at(63, most)), like(at(0, most))),
		state(of([]int{most - 1}), like(at(0, 1)), like(at(0, 2)), like(at(0, most-1))),
		state(of([]int{most - 1}, at(63, 2)), like(at(0, 1)), like(at(63, 2))),
		state(of([]int{0, 0, 3}), like(at(2, 1)), like(at(2, 2)), like(at(2, 3))),
	}
}

// pairs calls f with each two of many states in order.
func pairs(f func(a, b api.State)) {
	for _, l := range [][]api.State{shapes(four, like), unlikes(), append(drawn(1, 100, false), edges()...), drawn(2, 80, true)} {
		for _, a := range l {
			for _, b := range l {
				f(a, b)
			}
		}
	}
}

// likePairs calls f with each two of many states, which give unlike things to no dot.
func likePairs(f func(a, b api.State)) {
	for _, l := range [][]api.State{shapes(four, like), append(drawn(3, 100, false), edges()...)} {
		for _, a := range l {
			for _, b := range l {
				f(a, b)
			}
		}
	}
}

// likeThrees calls f with each three of many states, which give unlike things to no dot.
func likeThrees(f func(a, b, c api.State)) {
	for _, l := range [][]api.State{shapes(four[:3], like), append(drawn(4, 15, false), edges()...)} {
		for _, a := range l {
			for _, b := range l {
				for _, c := range l {
					f(a, b, c)
				}
			}
		}
	}
}

func TestJoin(t *testing.T) { // P9.1
	a, b, c := reg(0, 2, "a", 1), tag(1, 1, "b", "ada"), reg(1, 3, "c", 5)
	other := reg(1, 1, "z", 9)
	for _, x := range []struct {
		a, b, want api.State
	}{
		{api.State{}, api.State{}, api.State{}},
		{state(of([]int{2, 3}), a, b, c), api.State{}, state(of([]int{2, 3}), a, b, c)},
		{api.State{}, state(of([]int{2, 3}), a, b, c), state(of([]int{2, 3}), a, b, c)},
		{state(of(nil, at(0, 2)), a), state(of(nil, at(0, 2))), state(of(nil, at(0, 2)))}, // the chapter's example: one has it, one took it away
		{state(of(nil, at(0, 2))), state(of(nil, at(0, 2)), a), state(of(nil, at(0, 2)))},
		{state(of([]int{2}), a), state(of([]int{2}), a), state(of([]int{2}), a)},
		{state(of([]int{0, 1}), b), state(of([]int{0, 1}), other), state(of([]int{0, 1}), b)}, // unlike things of one dot: a's
		{state(of([]int{0, 1}), other), state(of([]int{0, 1}), b), state(of([]int{0, 1}), other)},
		{state(of([]int{2, 1}), a, b), state(of([]int{0, 1}, at(1, 3)), other, c), state(of([]int{2, 1}, at(1, 3)), a, b, c)},
		{state(of([]int{0, 1}), b), state(of(nil, at(0, 2), at(1, 3)), a, c), state(of([]int{0, 1}, at(0, 2), at(1, 3)), a, b, c)}, // ahead, and behind
		{state(of(nil, at(0, 2), at(1, 3)), a, c), state(of([]int{0, 1}), b), state(of([]int{0, 1}, at(0, 2), at(1, 3)), a, b, c)},
		{state(of([]int{2, 1}), a), state(of([]int{0, 3}), b, c), state(of([]int{2, 3}), a, c)},                            // b was taken away by the first one, and c is not known to it
		{state(of([]int{1, 1})), state(of(nil, at(0, 2), at(1, 2), at(1, 4))), state(of([]int{2, 2}, at(1, 4)))},           // what is known closes up
		{state(of(nil, at(1, 3)), c), state(of([]int{0, 2})), state(of([]int{0, 3}), c)},                                   // one less than its number is known
		{state(of(nil, at(1, 3)), c), state(of([]int{0, 3})), state(of([]int{0, 3}))},                                      // its number is known by Vec
		{state(of(nil, at(1, 3)), c), state(of(nil, at(1, 3), at(1, 5))), state(of(nil, at(1, 3), at(1, 5)))},              // its number is known by Cloud
		{state(of(nil, at(1, 3)), c), state(of(nil, at(1, 4), at(2, 3))), state(of(nil, at(1, 3), at(1, 4), at(2, 3)), c)}, // those beside it are known alone
		{state(of([]int{1}), api.Entry{Dot: at(0, 1)}), state(of([]int{0, 1}), api.Entry{Dot: at(1, 1), Path: "*"}), state(of([]int{1, 1}), api.Entry{Dot: at(0, 1)}, api.Entry{Dot: at(1, 1), Path: "*"})},
		{state(of([]int{api.MaxSeq - 1})), state(of(nil, at(0, api.MaxSeq)), reg(0, api.MaxSeq, "a", 1)), state(of([]int{api.MaxSeq}), reg(0, api.MaxSeq, "a", 1))},
	} {
		if got := Join(x.a, x.b); !plainSame(got, x.want) {
			t.Errorf("%+v with %+v: %+v, want %+v", x.a, x.b, got, x.want)
		}
	}
}

func TestJoinOfAnyStates(t *testing.T) { // P9.1
	pairs(func(a, b api.State) {
		got, want := Join(a, b), plainJoin(a, b)
		if !plainSame(got, want) || !plainOrder(got) {
			t.Fatalf("%+v with %+v: %+v, want %+v", a, b, got, want)
		}
		if store.Right(a) && store.Right(b) && !store.Right(got) {
			t.Fatalf("%+v with %+v: %+v, which is not right", a, b, got)
		}
	})
}

func TestJoinHasAllDotsOfBoth(t *testing.T) { // P9.1
	likePairs(func(a, b api.State) {
		got := Join(a, b)
		for _, d := range slices.Concat(four, []api.Dot{at(0, 2), at(1, 2), at(2, 3), at(63, 1), at(0, api.MaxSeq), at(63, api.MaxSeq), at(0, api.MaxSeq-1)}) {
			if ctx.Has(got.Ctx, d) != (ctx.Has(a.Ctx, d) || ctx.Has(b.Ctx, d)) {
				t.Fatalf("%+v with %+v: %+v, and %v", a, b, got, d)
			}
		}
	})
}

// plainAll is All by P9.2's words.
func plainAll(l []api.State) api.State {
	var s api.State
	for _, x := range l {
		s = plainJoin(s, x)
	}
	return s
}

func TestAll(t *testing.T) { // P9.2
	if got := All(); !plainSame(got, api.State{}) {
		t.Errorf("all of none: %+v", got)
	}
	a, b, c := reg(0, 1, "a", 1), reg(0, 1, "b", 2), reg(0, 1, "c", 3)
	one := of([]int{1})
	for _, x := range []struct {
		l    []api.State
		want api.State
	}{
		{[]api.State{{}}, api.State{}},
		{[]api.State{{}, {}, {}}, api.State{}},
		{[]api.State{state(one, a)}, state(one, a)},
		{[]api.State{state(one, a), state(one, b), state(one, c)}, state(one, a)}, // the first one's, of unlike things
		{[]api.State{{}, state(one, c), state(one, b), state(one, a)}, state(one, c)},
		{[]api.State{{}, {}, state(one, b), {}, state(one, a)}, state(one, b)},
		{[]api.State{state(one, a), state(one), state(one, a)}, state(one)}, // what one took away is gone
		{[]api.State{state(one), state(one, a), state(one, b)}, state(one)},
		{[]api.State{state(one, a), state(one, b), state(one)}, state(one)},
		{[]api.State{state(of(nil, at(0, 3))), state(of(nil, at(1, 1)), like(at(1, 1))), state(one, a), state(of(nil, at(0, 2)), like(at(0, 2)))}, state(of([]int{3, 1}), a, like(at(0, 2)), like(at(1, 1)))},
	} {
		if got := All(x.l...); !plainSame(got, x.want) {
			t.Errorf("all of %+v: %+v, want %+v", x.l, got, x.want)
		}
	}
}

func TestAllOfAnyStates(t *testing.T) { // P9.2
	r := rand.New(rand.NewSource(5))
	for _, from := range [][]api.State{shapes(four, like), unlikes(), drawn(6, 200, false), drawn(7, 200, true), edges()} {
		for range 2000 {
			l := make([]api.State, r.Intn(10))
			for k := range l {
				l[k] = from[r.Intn(len(from))]
			}
			if got, want := All(l...), plainAll(l); !plainSame(got, want) {
				t.Fatalf("all of %+v: %+v, want %+v", l, got, want)
			}
		}
	}
}

func TestCovers(t *testing.T) { // P9.3
	a, b := reg(0, 2, "a", 1), tag(1, 1, "b", "ada")
	both := state(of([]int{2, 1}), a, b)
	for _, x := range []struct {
		a, b api.State
		want bool
	}{
		{api.State{}, api.State{}, true},
		{api.State{Entries: []api.Entry{}}, api.State{Ctx: of([]int{})}, true},
		{both, both, true},
		{both, api.State{}, true},
		{api.State{}, both, false},
		{both, state(of(nil, at(0, 2)), a), true},
		{both, state(of(nil, at(0, 2))), false}, // it took a away
		{both, state(of([]int{1})), true},       // it knows less
		{both, state(of([]int{3})), false},      // it knows of one more, that left nothing
		{both, state(of([]int{0, 0, 1})), false},
		{both, state(of([]int{1}, at(2, 1)), reg(2, 1, "c", 1)), false},
		{both, state(of([]int{2, 1}), a, reg(1, 1, "z", 9)), true}, // an unlike thing of a dot: of both it is the first one's
		{state(of([]int{2, 1})), both, true},
		{both, state(of([]int{2, 1})), false},
		{state(of([]int{2, 1}), b), both, true},
		{state(of([]int{2, 1}), b), state(of([]int{2, 1}), a), false},
	} {
		if got := Covers(x.a, x.b); got != x.want {
			t.Errorf("whether %+v covers %+v: %t", x.a, x.b, got)
		}
	}
	pairs(func(a, b api.State) {
		if got, want := Covers(a, b), plainSame(plainJoin(a, b), a); got != want {
			t.Fatalf("whether %+v covers %+v: %t", a, b, got)
		}
	})
}

func TestBeyond(t *testing.T) { // P9.4
	a, b, c := reg(0, 2, "a", 1), tag(1, 1, "b", "ada"), reg(1, 3, "c", 5)
	s := state(of([]int{2, 4}), a, b, c)
	for _, x := range []struct {
		s    api.State
		c    api.Ctx
		want []api.Entry
	}{
		{s, api.Ctx{}, s.Entries},
		{s, s.Ctx, nil},
		{s, of([]int{1}), s.Entries},
		{s, of([]int{2}), []api.Entry{b, c}},
		{s, of(nil, at(0, 2)), []api.Entry{b, c}},
		{s, of([]int{0, 1}), []api.Entry{a, c}},
		{s, of([]int{0, 2}), []api.Entry{a, c}},
		{s, of([]int{0, 3}), []api.Entry{a}},
		{s, of(nil, at(0, 2), at(1, 3)), []api.Entry{b}},
		{s, of(nil, at(0, 3), at(1, 2), at(1, 4), at(2, 1)), s.Entries},
		{s, of(slices.Repeat([]int{api.MaxSeq}, 64)), nil},
		{s, of(nil, at(1, 3), at(0, 2)), []api.Entry{b}}, // of sets that are not right: what ctx.Has tells
		{s, of([]int{0, 1, 0}, at(1, 3), at(1, 3), at(-1, 0)), []api.Entry{a}},
		{s, of(nil, at(0, 2), at(64, 2)), []api.Entry{b, c}},
		{api.State{}, s.Ctx, nil},
		{api.State{}, api.Ctx{}, nil},
		{state(of([]int{9, 9})), api.Ctx{}, nil}, // what left nothing is not told
	} {
		if got := Beyond(x.s, x.c); !slices.Equal(got, x.want) {
			t.Errorf("beyond %v of %+v: %+v, want %+v", x.c, x.s, got, x.want)
		}
	}
	pairs(func(a, b api.State) {
		if got, want := Beyond(a, b.Ctx), plainBeyond(a, b.Ctx); !slices.Equal(got, want) {
			t.Fatalf("beyond %v of %+v: %+v, want %+v", b.Ctx, a, got, want)
		}
	})
}

func TestGone(t *testing.T) { // P9.5
	a, b, c := reg(0, 2, "a", 1), tag(1, 1, "b", "ada"), reg(1, 3, "c", 5)
	s := state(of([]int{2, 3}), a, b, c)
	for _, x := range []struct {
		s, t api.State
		want []api.Dot
	}{
		{s, s, nil},
		{s, api.State{}, nil},
		{api.State{}, s, nil},
		{state(s.Ctx), s, []api.Dot{a.Dot, b.Dot, c.Dot}},
		{s, state(s.Ctx), nil},
		{state(s.Ctx, b), s, []api.Dot{a.Dot, c.Dot}},
		{state(s.Ctx, a, c), s, []api.Dot{b.Dot}},
		{state(of([]int{1, 2}), b), s, nil},
		{state(of([]int{1, 2})), s, []api.Dot{b.Dot}},
		{state(of(nil, at(0, 2), at(1, 3))), s, []api.Dot{a.Dot, c.Dot}},
		{state(of(nil, at(0, 2), at(1, 3)), a), s, []api.Dot{c.Dot}},
		{state(s.Ctx, a, reg(1, 1, "z", 9), c), s, nil}, // another thing of that dot is one, too
		{state(of(slices.Repeat([]int{api.MaxSeq}, 64))), state(of(nil, at(0, api.MaxSeq), at(63, api.MaxSeq)), reg(63, api.MaxSeq, "a", 1)), []api.Dot{at(63, api.MaxSeq)}},
	} {
		if got := Gone(x.s, x.t); !slices.Equal(got, x.want) {
			t.Errorf("gone by %+v of %+v: %v, want %v", x.s, x.t, got, x.want)
		}
	}
	pairs(func(a, b api.State) {
		if got, want := Gone(a, b), plainGone(a, b); !slices.Equal(got, want) {
			t.Fatalf("gone by %+v of %+v: %v, want %v", a, b, got, want)
		}
	})
}

func TestJoinedInAnyOrder(t *testing.T) { // P9.6: and twice as once
	likePairs(func(a, b api.State) {
		ab := Join(a, b)
		if !plainSame(ab, Join(b, a)) {
			t.Fatalf("%+v with %+v: %+v, and the other way round %+v", a, b, ab, Join(b, a))
		}
		if !plainSame(Join(ab, b), ab) || !plainSame(Join(ab, a), ab) || !plainSame(Join(a, ab), ab) || !plainSame(Join(ab, ab), ab) || !plainSame(Join(a, a), a) {
			t.Fatalf("%+v with %+v, twice: not %+v", a, b, ab)
		}
	})
}

func TestJoinedTogetherInAnyWay(t *testing.T) { // P9.6
	likeThrees(func(a, b, c api.State) {
		left, right := Join(Join(a, b), c), Join(a, Join(b, c))
		if !plainSame(left, right) {
			t.Fatalf("%+v with %+v with %+v: %+v, or %+v", a, b, c, left, right)
		}
		if !plainSame(All(a, b, c), left) || !plainSame(All(c, a, b), left) || !plainSame(All(b, a, c, b, a), left) {
			t.Fatalf("all of %+v, %+v, %+v: not %+v", a, b, c, left)
		}
	})
}

func TestJoinedOfManyInAnyOrder(t *testing.T) { // P9.6
	r := rand.New(rand.NewSource(8))
	from := append(drawn(9, 200, false), edges()...)
	for range 500 {
		var l []api.State
		for range 1 + r.Intn(12) {
			l = append(l, from[r.Intn(len(from))])
		}
		want := All(l...)
		for range 4 {
			r.Shuffle(len(l), func(j, k int) { l[j], l[k] = l[k], l[j] })
			twice := append(slices.Clone(l), l[r.Intn(len(l))])
			cut := r.Intn(len(l) + 1)
			if !plainSame(All(twice...), want) || !plainSame(Join(All(l[:cut]...), All(l[cut:]...)), want) {
				t.Fatalf("all of %+v: not %+v", l, want)
			}
		}
	}
}

func TestJoinedIsOneWithoutAndBeyond(t *testing.T) { // P9.6
	pairs(func(a, b api.State) {
		want := store.Without(a, Gone(b, a)...)
		for _, x := range Beyond(b, a.Ctx) {
			want = store.With(want, x)
		}
		want.Ctx = ctx.Join(want.Ctx, b.Ctx)
		if got := Join(a, b); !plainSame(got, want) {
			t.Fatalf("%+v with %+v: %+v, want %+v", a, b, got, want)
		}
	})
}

func TestWhatCoversTwoCoversBothJoined(t *testing.T) { // P9.7
	many := 0
	likeThrees(func(a, b, c api.State) {
		two := Covers(a, b) && Covers(a, c)
		if got := Covers(a, Join(b, c)); got != two {
			t.Fatalf("whether %+v covers %+v and %+v: %t, and both joined: %t", a, b, c, two, got)
		}
		if two {
			many++
		}
	})
	if many < 100 {
		t.Errorf("%d cover two: too few to tell", many)
	}
}

func TestWhatCoverEachOtherAreTheSame(t *testing.T) { // P9.7
	likePairs(func(a, b api.State) {
		if Covers(a, b) && Covers(b, a) != plainSame(a, b) {
			t.Fatalf("%+v and %+v", a, b)
		}
		if ab := Join(a, b); !Covers(ab, a) || !Covers(ab, b) {
			t.Fatalf("%+v with %+v does not cover them", a, b)
		}
	})
}

// anyStates: states that are not in order, one for each thing that may be amiss, and some of which all is any.
func anyStates() []api.State {
	a, b, c := reg(0, 2, "a", 0), tag(1, 1, "b", "ada"), reg(1, 4, "c", 1)
	known := of([]int{2, 1}, at(1, 4))
	l := []api.State{
		state(known, b, a, c),
		state(known, c, b, a),
		state(known, a, a, b, b),
		state(api.Ctx{}, a, b, c),
		state(of([]int{2, 1, 0}, at(1, 4)), a, b, c),
		state(of([]int{-1, 1}, at(1, 4)), a, b, c),
		state(of([]int{2, 1}, at(1, 4), at(1, 3), at(1, 3)), a, b, c),
		state(of([]int{2, 1}, at(64, 4), at(-1, 3), at(0, 0)), a, b, c),
		state(of(slices.Repeat([]int{9}, 200)), a, b, c),
		state(of(slices.Repeat([]int{math.MinInt, math.MaxInt}, 50)), a, b, c),
	}
	r := rand.New(rand.NewSource(10))
	some := func() int {
		return []int{-1, 0, 1, 2, 3, 63, 64, 65, api.MaxSeq, api.MaxSeq + 1, math.MinInt, math.MaxInt}[r.Intn(12)]
	}
	for range 80 {
		var s api.State
		for range r.Intn(8) {
			s.Entries = append(s.Entries, reg(some(), some(), "a", some()))
		}
		for range r.Intn(80) {
			s.Ctx.Vec = append(s.Ctx.Vec, some())
		}
		for range r.Intn(8) {
			s.Ctx.Cloud = append(s.Ctx.Cloud, at(some(), some()))
		}
		l = append(l, s)
	}
	return l
}

func TestStatesNotInOrder(t *testing.T) { // R1: all calls end
	l := append(anyStates(), edges()...)
	for _, a := range l {
		for _, b := range l {
			Join(a, b)
			All(a, b, a)
			Covers(a, b)
			Beyond(a, b.Ctx)
			Gone(a, b)
		}
	}
	All(l...)
}

// roomy is s with room behind its lists; all of it, with what lies in these rooms.
func roomy(s api.State) (api.State, api.State) {
	all := clone(s)
	all.Entries = append(all.Entries, reg(7, 7, "room", 7), reg(7, 8, "room", 7), reg(7, 9, "room", 7))
	all.Ctx.Vec = append(all.Ctx.Vec, 7, 7, 7)
	all.Ctx.Cloud = append(all.Ctx.Cloud, at(7, 7), at(7, 8), at(7, 9))
	return state(of(all.Ctx.Vec[:len(s.Ctx.Vec)], all.Ctx.Cloud[:len(s.Ctx.Cloud)]...), all.Entries[:len(s.Entries)]...), all
}

// spoil writes over all that s has, and over the room behind its lists.
func spoil(s api.State) {
	spoilList(s.Entries, reg(-9, -9, "spoilt", -9))
	spoilList(s.Ctx.Vec, -9)
	spoilList(s.Ctx.Cloud, at(-9, -9))
}

// spoilList writes x over all of l, and over the room behind it.
func spoilList[T any](l []T, x T) {
	for k := range l[:cap(l)] {
		l[:cap(l)][k] = x
	}
}

func TestStatesAreNotChanged(t *testing.T) { // R3: nor the room behind their lists, and answers are new memory
	l := slices.Concat(drawn(11, 25, true), edges(), anyStates()[:30], []api.State{{}})
	for _, x := range l {
		a, allA := roomy(x)
		hadA := clone(allA)
		for _, y := range l {
			b, allB := roomy(y)
			hadB := clone(allB)
			Covers(a, b)
			spoil(Join(a, b))
			spoil(Join(a, a))
			spoil(All(a, b, a))
			spoil(All(a))
			spoil(All(api.State{}, a))
			spoil(All())
			spoilList(Beyond(a, b.Ctx), api.Entry{})
			spoilList(Beyond(a, api.Ctx{}), api.Entry{})
			spoilList(Gone(a, b), api.Dot{})
			if !plainSame(allA, hadA) || !plainSame(allB, hadB) || !plainSame(a, x) || !plainSame(b, y) {
				t.Fatalf("%+v or %+v was changed: %+v, %+v", hadA, hadB, allA, allB)
			}
		}
	}
	list := []api.State{l[0], l[1], l[2], l[3]}
	had := []api.State{clone(l[0]), clone(l[1]), clone(l[2]), clone(l[3])}
	All(list[:3]...)
	for k := range list {
		if !plainSame(list[k], had[k]) {
			t.Errorf("the list of states was changed at %d: %+v", k, list[k])
		}
	}
}

func TestListsOfAnAnswerShareNothing(t *testing.T) { // R3
	likePairs(func(a, b api.State) {
		got := Join(a, b)
		cloud := got.Ctx.Cloud
		want := slices.Clone(cloud)
		spoilList(got.Entries, api.Entry{})
		spoilList(got.Ctx.Vec, -9)
		if !slices.Equal(cloud, want) {
			t.Fatalf("%+v with %+v: %v", a, b, cloud)
		}
	})
}

// large: a state of n dots that stand by themselves, from the first one of a replica on; of those that leave tells something was left.
func large(n, first int, leave func(k int) bool) api.State {
	var s api.State
	for k := range n {
		x := reg(k/(n/64), first+2*(k%(n/64)), "a", 1)
		if leave(k) {
			s.Entries = append(s.Entries, x)
		}
		s.Ctx.Cloud = append(s.Ctx.Cloud, x.Dot)
	}
	return s
}

func TestLargeStates(t *testing.T) { // P9.1 to P9.5: of many entries, whose dots stand by themselves
	const n = 1 << 16
	a := large(n, 2, func(k int) bool { return k%2 == 0 })
	b := large(n, 2, func(k int) bool { return k%3 == 0 })
	c := large(n, 2*n, func(k int) bool { return true })
	both := 0
	for k := range n {
		if k%6 == 0 {
			both++
		}
	}
	if got := Join(a, b); len(got.Entries) != both || !ctx.Same(got.Ctx, a.Ctx) {
		t.Errorf("Join: %d", len(got.Entries))
	}
	if got := Join(a, c); len(got.Entries) != n/2+n || len(got.Ctx.Cloud) != 2*n || !store.Right(got) {
		t.Errorf("Join of others: %d", len(got.Entries))
	}
	if got := Gone(b, a); len(got) != n/2-both {
		t.Errorf("Gone: %d", len(got))
	}
	if got := Beyond(a, b.Ctx); len(got) != 0 {
		t.Errorf("Beyond: %d", len(got))
	}
	if got := Beyond(c, a.Ctx); !slices.Equal(got, c.Entries) {
		t.Errorf("Beyond of others: %d", len(got))
	}
	if !Covers(Join(a, b), b) || Covers(a, b) {
		t.Error("Covers")
	}
}

func TestAllOfManyStates(t *testing.T) { // P9.2: of many states, each of one entry
	const n = 1 << 14
	var l []api.State
	for k := range n {
		x := reg(k%64, 2+2*(k/64), "a", k)
		l = append(l, state(of(nil, x.Dot), x))
	}
	got := All(l...)
	if len(got.Entries) != n || len(got.Ctx.Cloud) != n || !store.Right(got) {
		t.Errorf("all: %d", len(got.Entries))
	}
}

func TestTheSameIsToldAgain(t *testing.T) { // R4
	tell := func() string {
		var b strings.Builder
		l := slices.Concat(drawn(12, 50, true), anyStates())
		for k, s := range l {
			other := l[len(l)-1-k]
			fmt.Fprintln(&b, Join(s, other), All(l[k/2:k]...), Covers(s, other), Beyond(s, other.Ctx), Gone(s, other))
		}
		return b.String()
	}
	if tell() != tell() {
		t.Error("not the same")
	}
}
