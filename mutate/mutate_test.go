package mutate

import (
	"fmt"
	"math"
	"math/rand"
	"slices"
	"strings"
	"testing"

	"lorgnette/api"
	"lorgnette/ctx"
	"lorgnette/join"
	"lorgnette/store"
)

// at is a dot, shortly.
func at(rep, seq int) api.Dot {
	return api.Dot{Rep: rep, Seq: seq}
}

// of is a set of dots as it is written down.
func of(vec []int, cloud ...api.Dot) api.Ctx {
	return api.Ctx{Vec: vec, Cloud: cloud}
}

// state is a state as it is written down.
func state(c api.Ctx, l ...api.Entry) api.State {
	return api.State{Entries: l, Ctx: c}
}

// reg is an entry that is right, if its dot and its path are.
func reg(d api.Dot, p string, n int) api.Entry {
	return api.Entry{Dot: d, Path: p, Kind: api.FieldReg, Val: api.Value{Kind: api.ValInt, Int: n}}
}

// tag is another one, of a set of texts.
func tag(d api.Dot, p, s string) api.Entry {
	return api.Entry{Dot: d, Path: p, Kind: api.FieldSet, Val: api.Value{Kind: api.ValText, Text: s}, Ver: at(3, 1)}
}

// clone is s in memory of its own.
func clone(s api.State) api.State {
	return state(of(slices.Clone(s.Ctx.Vec), slices.Clone(s.Ctx.Cloud)...), slices.Clone(s.Entries)...)
}

// plainSame is whether two states are the same, one thing behind another.
func plainSame(a, b api.State) bool {
	return slices.Equal(a.Entries, b.Entries) && slices.Equal(a.Ctx.Vec, b.Ctx.Vec) && slices.Equal(a.Ctx.Cloud, b.Ctx.Cloud)
}

// plainSet is the set of those dots that may name events, by chapter 6's words.
func plainSet(l ...api.Dot) api.Ctx {
	has := map[api.Dot]bool{}
	var c api.Ctx
	for _, d := range l {
		has[d] = true
	}
	for rep := range api.MaxReps {
		n := 0
		for has[at(rep, n+1)] && n < api.MaxSeq {
			n++
		}
		c.Vec = append(c.Vec, n)
	}
	for d := range has {
		if d.Rep >= 0 && d.Rep < api.MaxReps && d.Seq > c.Vec[d.Rep] && d.Seq <= api.MaxSeq {
			c.Cloud = append(c.Cloud, d)
		}
	}
	for len(c.Vec) > 0 && c.Vec[len(c.Vec)-1] == 0 {
		c.Vec = c.Vec[:len(c.Vec)-1]
	}
	slices.SortFunc(c.Cloud, func(a, b api.Dot) int {
		if a.Rep != b.Rep {
			return a.Rep - b.Rep
		}
		return a.Seq - b.Seq
	})
	return c
}

// few: dots of which some are apart from others, or next to them, and of replicas at both ends.
var few = []api.Dot{at(0, 1), at(0, 2), at(0, 4), at(1, 1), at(63, 3)}

// shapes: all states of those dots, each of which is not known, or known alone, or left something.
func shapes(dots []api.Dot) []api.State {
	l := []api.State{{}}
	for _, d := range dots {
		var more []api.State
		for _, s := range l {
			more = append(more, s, store.Without(s, d), store.With(s, reg(d, "name", d.Seq)))
		}
		l = more
	}
	return l
}

// drawn: states in order, some of great numbers.
func drawn(seed int64, n int) []api.State {
	r := rand.New(rand.NewSource(seed))
	var l []api.State
	for range n {
		var s api.State
		if r.Intn(4) == 0 {
			s.Ctx.Vec = []int{api.MaxSeq - 1, r.Intn(3), api.MaxSeq}
		}
		for range r.Intn(15) {
			d := at([]int{0, 1, 2, 5, 63}[r.Intn(5)], []int{1, 2, 3, 4, 5, 6, 7, api.MaxSeq - 1, api.MaxSeq}[r.Intn(9)])
			switch r.Intn(3) {
			case 0:
				s = store.Without(s, d)
			case 1:
				s = store.With(s, reg(d, "a/7/c", r.Intn(9)))
			case 2:
				s = store.With(s, tag(d, "tags", "ada"))
			}
		}
		l = append(l, s)
	}
	return l
}

// edges: states in order, with the greatest replica and number, and none of anything.
func edges() []api.State {
	most := api.MaxSeq
	return []api.State{
		{},
		{Entries: []api.Entry{}, Ctx: api.Ctx{Vec: []int{}, Cloud: []api.Dot{}}},
		state(of(slices.Repeat([]int{most}, 64)), reg(at(0, most), "a", 1), reg(at(63, 1), "a", 1)),
		state(of(slices.Repeat([]int{most - 1}, 64)), reg(at(0, 1), "a", 1), reg(at(63, most-1), "a", 1)),
		state(of(nil, at(0, most), at(63, most-1)), reg(at(0, most), "a", 1)),
		state(of([]int{most - 2}, at(0, most)), reg(at(0, most), "a", 1)),
	}
}

// inOrder: many states in order.
func inOrder() []api.State {
	return slices.Concat(shapes(few), drawn(1, 200), edges())
}

// wrongs: states that are not in order.
func wrongs() []api.State {
	r := rand.New(rand.NewSource(2))
	some := func() int {
		return []int{-1, 0, 1, 2, 3, 63, 64, 65, api.MaxSeq, api.MaxSeq + 1, math.MinInt, math.MaxInt}[r.Intn(12)]
	}
	a, b := reg(at(0, 2), "a", 1), tag(at(1, 1), "b", "ada")
	l := []api.State{
		state(of([]int{2, 1}), b, a),
		state(of([]int{2, 1}), a, a, b),
		state(of(nil), a, b),
		state(of([]int{2, 1, 0}), a, b),
		state(of(slices.Repeat([]int{9}, 200)), a, b),
		state(of(slices.Repeat([]int{math.MinInt, math.MaxInt}, 50)), a, b),
	}
	for range 60 {
		var s api.State
		for range r.Intn(6) {
			s.Entries = append(s.Entries, reg(at(some(), some()), "a", some()))
		}
		for range r.Intn(80) {
			s.Ctx.Vec = append(s.Ctx.Vec, some())
		}
		for range r.Intn(6) {
			s.Ctx.Cloud = append(s.Ctx.Cloud, at(some(), some()))
		}
		l = append(l, s)
	}
	return l
}

// anyDots: dots that may name events, and such as may not.
func anyDots() []api.Dot {
	most := api.MaxSeq
	return append([]api.Dot{
		{}, at(0, -1), at(0, most), at(0, most+1), at(63, most), at(63, 1), at(63, 0), at(64, 1), at(-1, 1),
		at(0, math.MaxInt), at(0, math.MinInt), at(math.MaxInt, 1), at(math.MinInt, 1),
	}, few...)
}

// lists calls f with many lists of any dots, in any order, and some twice.
func lists(f func(l []api.Dot)) {
	all := anyDots()
	f(nil)
	f([]api.Dot{})
	f(all)
	for _, a := range all {
		f([]api.Dot{a})
		for _, b := range all {
			f([]api.Dot{a, b})
		}
	}
	r := rand.New(rand.NewSource(3))
	for range 300 {
		var l []api.Dot
		for range 3 + r.Intn(10) {
			l = append(l, all[r.Intn(len(all))])
		}
		f(l)
	}
}

func TestNext(t *testing.T) { // P10.1
	most := api.MaxSeq
	for _, x := range []struct {
		c    api.Ctx
		rep  int
		want api.Dot
		err  api.Errno
	}{
		{api.Ctx{}, 3, at(3, 1), api.OK}, // the chapter's example
		{api.Ctx{}, 0, at(0, 1), api.OK},
		{api.Ctx{}, 63, at(63, 1), api.OK},
		{api.Ctx{}, 64, api.Dot{}, api.ErrArg},
		{api.Ctx{}, -1, api.Dot{}, api.ErrArg},
		{api.Ctx{}, math.MaxInt, api.Dot{}, api.ErrArg},
		{api.Ctx{}, math.MinInt, api.Dot{}, api.ErrArg},
		{of([]int{4, 7}), 0, at(0, 5), api.OK},
		{of([]int{4, 7}), 1, at(1, 8), api.OK},
		{of([]int{4, 7}), 2, at(2, 1), api.OK},
		{of([]int{0, 7}), 0, at(0, 1), api.OK},
		{of([]int{4, 7}), -1, api.Dot{}, api.ErrArg},
		{of([]int{4}, at(0, 6), at(0, 9), at(1, 20)), 0, at(0, 10), api.OK}, // one behind the greatest one, and not in a gap
		{of([]int{4}, at(0, 6), at(0, 9), at(1, 20)), 1, at(1, 21), api.OK},
		{of(nil, at(2, 2)), 2, at(2, 3), api.OK},
		{of(nil, at(2, 2)), 1, at(1, 1), api.OK},
		{of([]int{most - 1}), 0, at(0, most), api.OK},
		{of([]int{most}), 0, api.Dot{}, api.ErrArg},
		{of([]int{most}), 1, at(1, 1), api.OK},
		{of(nil, at(5, most-1)), 5, at(5, most), api.OK},
		{of(nil, at(5, most)), 5, api.Dot{}, api.ErrArg},
		{of(nil, at(5, most)), 4, at(4, 1), api.OK},
		{of([]int{1}, at(0, most)), 0, api.Dot{}, api.ErrArg},
		{of(append(make([]int, 63), 8)), 63, at(63, 9), api.OK},
		{of(slices.Repeat([]int{most}, 64)), 63, api.Dot{}, api.ErrArg},
		{of(slices.Repeat([]int{most}, 64)), 64, api.Dot{}, api.ErrArg},
	} {
		if got, err := Next(state(x.c), x.rep); got != x.want || err != x.err {
			t.Errorf("next of %d in %v: %v, %d, want %v, %d", x.rep, x.c, got, err, x.want, x.err)
		}
	}
}

func TestNextOfAnyStates(t *testing.T) { // P10.1
	for _, s := range inOrder() {
		for rep := -2; rep < api.MaxReps+2; rep++ {
			most := 0
			if rep >= 0 && rep < len(s.Ctx.Vec) {
				most = s.Ctx.Vec[rep]
			}
			for _, d := range s.Ctx.Cloud {
				if d.Rep == rep && d.Seq > most {
					most = d.Seq
				}
			}
			want, wantErr := at(rep, most+1), api.OK
			if rep < 0 || rep > 63 || most >= api.MaxSeq {
				want, wantErr = api.Dot{}, api.ErrArg
			}
			got, err := Next(s, rep)
			if got != want || err != wantErr {
				t.Fatalf("next of %d in %+v: %v, %d", rep, s, got, err)
			}
			if err == api.OK && ctx.Has(s.Ctx, got) {
				t.Fatalf("next of %d in %+v: %v, which is known", rep, s, got)
			}
		}
	}
}

func TestLeave(t *testing.T) { // P10.2
	x := tag(at(1, 3), "tags", "ada")
	for _, y := range []struct {
		gone []api.Dot
		want api.Ctx
	}{
		{nil, of(nil, at(1, 3))},
		{[]api.Dot{at(1, 2)}, of(nil, at(1, 2), at(1, 3))},
		{[]api.Dot{at(1, 2), at(1, 1)}, of([]int{0, 3})},
		{[]api.Dot{at(2, 1), at(0, 4)}, of([]int{0, 0, 1}, at(0, 4), at(1, 3))},
		{[]api.Dot{at(2, 2), at(0, 4), at(2, 2)}, of(nil, at(0, 4), at(1, 3), at(2, 2))},
		{[]api.Dot{at(1, 3), at(1, 3)}, of(nil, at(1, 3))}, // its own: it is there, for all that
		{[]api.Dot{{}, at(64, 1), at(-1, 1), at(0, api.MaxSeq+1)}, of(nil, at(1, 3))},
		{[]api.Dot{at(63, api.MaxSeq)}, of(nil, at(1, 3), at(63, api.MaxSeq))},
	} {
		if got := Leave(x, y.gone...); !plainSame(got, state(y.want, x)) {
			t.Errorf("%+v, and %v goes: %+v, want %+v", x, y.gone, got, y.want)
		}
	}
	first := reg(at(0, 1), "a", 1)
	if got := Leave(first); !plainSame(got, state(of([]int{1}), first)) {
		t.Errorf("the first one: %+v", got)
	}
	for _, wrong := range []api.Entry{{}, {Dot: at(64, 1), Path: "*", Kind: 9}, reg(at(0, api.MaxSeq+1), "", -1)} { // what is no event's name is let go by ctx.Of
		if got := Leave(wrong, at(0, 1)); !plainSame(got, state(of([]int{1}), wrong)) {
			t.Errorf("%+v: %+v", wrong, got)
		}
	}
}

func TestTake(t *testing.T) { // P10.3
	for _, x := range []struct {
		d    api.Dot
		gone []api.Dot
		want api.Ctx
	}{
		{at(1, 3), nil, of(nil, at(1, 3))},
		{at(0, 1), nil, of([]int{1})},
		{at(1, 3), []api.Dot{at(1, 2)}, of(nil, at(1, 2), at(1, 3))},
		{at(1, 3), []api.Dot{at(1, 2), at(1, 1)}, of([]int{0, 3})},
		{at(1, 3), []api.Dot{at(2, 1), at(0, 4), at(2, 1)}, of([]int{0, 0, 1}, at(0, 4), at(1, 3))},
		{at(1, 3), []api.Dot{at(1, 3)}, of(nil, at(1, 3))},
		{at(63, api.MaxSeq), []api.Dot{at(0, api.MaxSeq)}, of(nil, at(0, api.MaxSeq), at(63, api.MaxSeq))},
		{api.Dot{}, []api.Dot{at(0, 1)}, of([]int{1})},
		{at(64, 1), []api.Dot{at(-1, 1), at(0, api.MaxSeq+1)}, api.Ctx{}},
	} {
		if got := Take(x.d, x.gone...); !plainSame(got, state(x.want)) {
			t.Errorf("%v, and %v goes: %+v, want %+v", x.d, x.gone, got, x.want)
		}
	}
}

func TestLeaveAndTakeOfAnyDots(t *testing.T) { // P10.2, P10.3
	lists(func(l []api.Dot) {
		for _, d := range anyDots() {
			x, want := tag(d, "tags", "ada"), plainSet(append([]api.Dot{d}, l...)...)
			if got := Leave(x, l...); !plainSame(got, state(want, x)) {
				t.Fatalf("%+v, and %v goes: %+v, want %+v", x, l, got, want)
			}
			if got := Take(d, l...); !plainSame(got, state(want)) {
				t.Fatalf("%v, and %v goes: %+v, want %+v", d, l, got, want)
			}
		}
	})
}

func TestPlay(t *testing.T) { // P10.4
	a, b, other := reg(at(0, 2), "a", 1), tag(at(1, 1), "b", "ada"), reg(at(0, 2), "z", 9)
	for _, x := range []struct {
		s, delta, want api.State
	}{
		{api.State{}, api.State{}, api.State{}},
		{state(of([]int{2}), a), api.State{}, state(of([]int{2}), a)},
		{api.State{}, state(of([]int{2}), a), state(of([]int{2}), a)},
		{state(of([]int{2}), a), state(of([]int{0, 1}), b), state(of([]int{2, 1}), a, b)},
		{state(of([]int{2}), a), state(of([]int{0, 1}, at(0, 2)), b), state(of([]int{2, 1}), b)},
		{state(of([]int{2})), state(of(nil, at(0, 2)), a), state(of([]int{2}))},
		{state(of([]int{2}), a), state(of(nil, at(0, 2)), other), state(of([]int{2}), a)}, // of what both have, the first one's
		{state(of([]int{2}), other), state(of(nil, at(0, 2)), a), state(of([]int{2}), other)},
	} {
		if got := Play(x.s, x.delta); !plainSame(got, x.want) {
			t.Errorf("%+v in %+v: %+v, want %+v", x.delta, x.s, got, x.want)
		}
	}
	l := slices.Concat(shapes(few[1:]), drawn(4, 60), edges())
	for _, s := range l {
		for _, delta := range l {
			if got, want := Play(s, delta), join.Join(s, delta); !plainSame(got, want) {
				t.Fatalf("%+v in %+v: %+v, want %+v", delta, s, got, want)
			}
		}
	}
}

// parts calls f with each part of s's entries, told by their dots, falling.
func parts(s api.State, f func(gone []api.Dot)) {
	for set := range 1 << min(len(s.Entries), 6) {
		var gone []api.Dot
		for k := len(s.Entries) - 1; k >= 0; k-- {
			if set>>k&1 == 1 {
				gone = append(gone, s.Entries[k].Dot)
			}
		}
		f(gone)
	}
}

// done is what s is where d was done there, by the chapter's words: what goes is gone, what it leaves is there, all else stays.
func done(s api.State, d api.Dot, gone []api.Dot, left ...api.Entry) api.State {
	var l []api.Entry
	for _, x := range s.Entries {
		if !slices.Contains(gone, x.Dot) {
			l = append(l, x)
		}
	}
	l = append(l, left...)
	slices.SortFunc(l, func(a, b api.Entry) int {
		if a.Dot.Rep != b.Dot.Rep {
			return a.Dot.Rep - b.Dot.Rep
		}
		return a.Dot.Seq - b.Dot.Seq
	})
	return state(ctx.Add(s.Ctx, d), l...)
}

func TestWhatIsJoinedIsWhatIsDone(t *testing.T) { // P10.5
	for _, s := range inOrder() {
		for _, rep := range []int{0, 1, 2, 62, 63} {
			d, err := Next(s, rep)
			if err != api.OK {
				continue
			}
			x := tag(d, "tags", "bob")
			parts(s, func(gone []api.Dot) {
				want := done(s, d, gone, x)
				if got := Play(s, Leave(x, gone...)); !plainSame(got, want) || !store.Right(got) {
					t.Fatalf("%+v left in %+v, and %v goes: %+v, want %+v", x, s, gone, got, want)
				}
				want = done(s, d, gone)
				if got := Play(s, Take(d, gone...)); !plainSame(got, want) || !store.Right(got) {
					t.Fatalf("%v taken in %+v: %+v, want %+v", gone, s, got, want)
				}
				known := ctx.Dots(s.Ctx, 9) // events of which nothing is there any more, or which go twice, change nothing more
				if got := Play(s, Take(d, slices.Concat(gone, gone)...)); !plainSame(got, want) {
					t.Fatalf("%v taken twice in %+v: %+v, want %+v", gone, s, got, want)
				}
				if got, want := Play(s, Leave(x, known...)), done(s, d, known, x); !plainSame(got, want) {
					t.Fatalf("%+v left in %+v, and %v goes: %+v, want %+v", x, s, known, got, want)
				}
			})
		}
	}
}

func TestEventsOneBehindAnother(t *testing.T) { // P10.5: a document that lives on
	r := rand.New(rand.NewSource(5))
	for range 100 {
		var s, want api.State
		for range 40 {
			d, _ := Next(s, r.Intn(3))
			var gone []api.Dot
			for _, x := range s.Entries {
				if r.Intn(4) == 0 {
					gone = append(gone, x.Dot)
				}
			}
			if x := reg(d, "a", r.Intn(9)); r.Intn(3) > 0 {
				s, want = Play(s, Leave(x, gone...)), store.With(store.Without(want, gone...), x)
			} else {
				s, want = Play(s, Take(d, gone...)), store.Without(want, append(gone, d)...)
			}
			if !plainSame(s, want) || len(s.Ctx.Cloud) != 0 {
				t.Fatalf("%+v, want %+v", s, want)
			}
		}
	}
}

func TestStatesNotInOrder(t *testing.T) { // R1: all calls end
	l := append(wrongs(), edges()...)
	for _, s := range l {
		for _, rep := range []int{-1, 0, 1, 5, 63, 64, 99, 199, math.MaxInt, math.MinInt} {
			if d, err := Next(s, rep); (rep < 0 || rep > 63) && (d != api.Dot{} || err != api.ErrArg) {
				t.Errorf("next of %d in %+v: %v, %d", rep, s, d, err)
			}
		}
		for _, delta := range l {
			Play(s, delta)
		}
		for _, x := range s.Entries {
			Play(s, Leave(x, s.Ctx.Cloud...))
			Play(s, Take(x.Dot, s.Ctx.Cloud...))
		}
	}
}

// roomy is l with room behind its end; all of it, with what lies in that room.
func roomy[T any](l []T, room T) ([]T, []T) {
	all := append(slices.Clone(l), room, room, room)
	return all[:len(l)], all
}

// roomyState is s with room behind its lists; all of it, with what lies in these rooms.
func roomyState(s api.State) (api.State, api.State) {
	l, allL := roomy(s.Entries, reg(at(7, 7), "room", 7))
	vec, allVec := roomy(s.Ctx.Vec, 7)
	cloud, allCloud := roomy(s.Ctx.Cloud, at(7, 7))
	return state(of(vec, cloud...), l...), state(of(allVec, allCloud...), allL...)
}

// spoil writes over all that s has, and over the room behind its lists.
func spoil(s api.State) {
	spoilList(s.Entries, reg(at(-9, -9), "spoilt", -9))
	spoilList(s.Ctx.Vec, -9)
	spoilList(s.Ctx.Cloud, at(-9, -9))
}

// spoilList writes x over all of l, and over the room behind it.
func spoilList[T any](l []T, x T) {
	for k := range l[:cap(l)] {
		l[:cap(l)][k] = x
	}
}

func TestNothingHandedInIsChanged(t *testing.T) { // R3: nor the room behind lists, and answers are new memory
	lists(func(l []api.Dot) {
		gone, all := roomy(l, at(7, 7))
		had := slices.Clone(all)
		for _, d := range []api.Dot{at(0, 3), at(1, 2), {}} {
			spoil(Leave(reg(d, "a", 1), gone...))
			spoil(Take(d, gone...))
		}
		if !slices.Equal(all, had) {
			t.Fatalf("%v was changed: %v", had, all)
		}
	})
	l := slices.Concat(shapes(few[2:]), drawn(6, 30), edges(), wrongs()[:30])
	for _, x := range l {
		for _, y := range l {
			s, allS := roomyState(x)
			delta, allDelta := roomyState(y)
			hadS, hadDelta := clone(allS), clone(allDelta)
			Next(s, 1)
			spoil(Play(s, delta))
			spoil(Play(s, s))
			if !plainSame(allS, hadS) || !plainSame(allDelta, hadDelta) {
				t.Fatalf("%+v or %+v was changed: %+v, %+v", hadS, hadDelta, allS, allDelta)
			}
		}
	}
}

func TestManyGo(t *testing.T) { // P10.2, P10.3, P10.5: of many entries
	const n = 1 << 17
	var s api.State
	var gone []api.Dot
	for k := range n {
		x := reg(at(k/(n/64), 1+k%(n/64)), "a", k)
		s.Entries = append(s.Entries, x)
		if k%2 == 0 {
			gone = append(gone, x.Dot)
		}
	}
	s.Ctx.Vec = slices.Repeat([]int{n / 64}, 64)
	d, err := Next(s, 63)
	if d != at(63, n/64+1) || err != api.OK {
		t.Errorf("next: %v, %d", d, err)
	}
	left := Play(s, Leave(reg(d, "b", 1), gone...))
	taken := Play(s, Take(d, gone...))
	if len(left.Entries) != n/2+1 || len(taken.Entries) != n/2 || !store.Right(left) || !store.Right(taken) || !ctx.Same(left.Ctx, taken.Ctx) {
		t.Errorf("%d are left, or %d", len(left.Entries), len(taken.Entries))
	}
}

func TestTheSameIsToldAgain(t *testing.T) { // R4
	tell := func() string {
		var b strings.Builder
		lists(func(l []api.Dot) {
			fmt.Fprintln(&b, Leave(reg(at(1, 1), "a", 1), l...), Take(at(1, 2), l...))
		})
		l := slices.Concat(drawn(7, 50), wrongs())
		for k, s := range l {
			d, err := Next(s, 1)
			fmt.Fprintln(&b, d, err, Play(s, l[len(l)-1-k]))
		}
		return b.String()
	}
	if tell() != tell() {
		t.Error("not the same")
	}
}
