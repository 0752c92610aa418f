package ctx

import (
	"fmt"
	"math"
	"math/rand"
	"slices"
	"strings"
	"testing"

	"lorgnette/api"
	"lorgnette/dot"
	"lorgnette/varint"
)

// at is a dot, shortly.
func at(rep, seq int) api.Dot {
	return api.Dot{Rep: rep, Seq: seq}
}

// of is a set as it is written down.
func of(vec []int, cloud ...api.Dot) api.Ctx {
	return api.Ctx{Vec: vec, Cloud: cloud}
}

// plain is the dots of c one by one, by P6.2's words; of numbers that are small.
func plain(c api.Ctx) map[api.Dot]bool {
	set := map[api.Dot]bool{}
	for rep, n := range c.Vec {
		for seq := 1; seq <= n; seq++ {
			set[at(rep, seq)] = true
		}
	}
	for _, d := range c.Cloud {
		set[d] = true
	}
	return set
}

// plainRight is whether a dot may name an event.
func plainRight(d api.Dot) bool {
	return d.Rep >= 0 && d.Rep < 64 && d.Seq >= 1 && d.Seq <= 1073741824
}

// plainForm is the only form of the dots of a set that are right, by P6.1's words.
func plainForm(set map[api.Dot]bool) api.Ctx {
	var c api.Ctx
	for rep := range 64 {
		n := 0
		for set[at(rep, n+1)] {
			n++
		}
		c.Vec = append(c.Vec, n)
	}
	for len(c.Vec) > 0 && c.Vec[len(c.Vec)-1] == 0 {
		c.Vec = c.Vec[:len(c.Vec)-1]
	}
	for d := range set {
		if plainRight(d) && (d.Rep >= len(c.Vec) || d.Seq > c.Vec[d.Rep]) {
			c.Cloud = append(c.Cloud, d)
		}
	}
	slices.SortFunc(c.Cloud, func(a, b api.Dot) int {
		if a.Rep != b.Rep {
			return a.Rep - b.Rep
		}
		return a.Seq - b.Seq
	})
	return c
}

// plainSame is whether two sets have the same form.
func plainSame(a, b api.Ctx) bool {
	same := len(a.Vec) == len(b.Vec) && len(a.Cloud) == len(b.Cloud)
	for k := 0; same && k < len(a.Vec); k++ {
		same = a.Vec[k] == b.Vec[k]
	}
	for k := 0; same && k < len(a.Cloud); k++ {
		same = a.Cloud[k].Rep == b.Cloud[k].Rep && a.Cloud[k].Seq == b.Cloud[k].Seq
	}
	return same
}

// either is all that one of the two has.
func either(a, b map[api.Dot]bool) map[api.Dot]bool {
	set := map[api.Dot]bool{}
	for d := range a {
		set[d] = true
	}
	for d := range b {
		set[d] = true
	}
	return set
}

// clone is c in memory of its own.
func clone(c api.Ctx) api.Ctx {
	return api.Ctx{Vec: slices.Clone(c.Vec), Cloud: slices.Clone(c.Cloud)}
}

// small: all sets of the first numbers of some replicas.
func small(reps, seqs int) []api.Ctx {
	var l []api.Ctx
	for bits := range 1 << (reps * seqs) {
		set := map[api.Dot]bool{}
		for k := range reps * seqs {
			if bits>>k&1 == 1 {
				set[at(k/seqs, k%seqs+1)] = true
			}
		}
		l = append(l, plainForm(set))
	}
	return l
}

// someDots: dots that are right, or, if asked for, may be wrong, in any order, some more than once.
func someDots(r *rand.Rand, wrong bool) []api.Dot {
	l := make([]api.Dot, r.Intn(12))
	for k := range l {
		l[k] = at([]int{0, 0, 1, 2, 5, 63}[r.Intn(6)], 1+r.Intn(6))
		switch {
		case wrong && r.Intn(8) == 0:
			l[k].Rep = []int{-1, 64, math.MinInt, math.MaxInt, 1 << 32}[r.Intn(5)]
		case wrong && r.Intn(8) == 0:
			l[k].Seq = []int{0, -1, math.MinInt, math.MaxInt, 1<<30 + 1}[r.Intn(5)]
		}
	}
	return l
}

// drawn: sets that are right, of up to a dozen dots.
func drawn(n int) []api.Ctx {
	r := rand.New(rand.NewSource(6))
	l := []api.Ctx{{}, {Vec: []int{}, Cloud: []api.Dot{}}}
	for range n {
		l = append(l, plainForm(plain(of(nil, someDots(r, false)...))))
	}
	return l
}

// edges: sets that are right, with the greatest replica and number.
func edges() []api.Ctx {
	last := slices.Repeat([]int{api.MaxSeq}, 64)
	return []api.Ctx{
		of([]int{api.MaxSeq}),
		of([]int{api.MaxSeq - 1}),
		of([]int{api.MaxSeq - 2}, at(0, api.MaxSeq)),
		of(nil, at(0, api.MaxSeq)),
		of(nil, at(0, 2), at(63, 2), at(63, api.MaxSeq)),
		of(append(make([]int, 63), 1), at(62, 2), at(63, 3)),
		of(last),
		of(last[:63], at(63, 2)),
	}
}

// wrongs: sets that are not right, one for each thing that may be wrong, and some of numbers at the ends.
func wrongs() []api.Ctx {
	l := []api.Ctx{
		of([]int{0}),
		of([]int{1, 0}),
		of([]int{1, 0, 0, 0}),
		of([]int{-1}),
		of([]int{-1, 1}),
		of([]int{1, -1}),
		of([]int{api.MaxSeq + 1}),
		of([]int{1, api.MaxSeq + 1, 1}),
		of([]int{math.MinInt}),
		of([]int{math.MaxInt}),
		of([]int{math.MinInt, 1}, at(0, 1)),
		of([]int{math.MaxInt, 1}, at(0, api.MaxSeq)),
		of(slices.Repeat([]int{1}, 65)),
		of(append(make([]int, 64), 1)),
		of(make([]int, 65)),
		of(nil, api.Dot{}),
		of(nil, at(0, 0)),
		of(nil, at(0, -1)),
		of(nil, at(0, api.MaxSeq+1)),
		of(nil, at(-1, 2)),
		of(nil, at(64, 2)),
		of(nil, at(math.MinInt, math.MinInt), at(math.MaxInt, math.MaxInt)),
		of(nil, at(0, 1)),
		of(nil, at(63, 1)),
		of([]int{2}, at(0, 1)),
		of([]int{2}, at(0, 2)),
		of([]int{2}, at(0, 3)),
		of([]int{2}, at(1, 1)),
		of([]int{0, 2}, at(0, 1)),
		of([]int{2, 2}, at(0, 4), at(1, 3)),
		of(nil, at(0, 2), at(0, 2)),
		of(nil, at(0, 3), at(0, 2)),
		of(nil, at(1, 2), at(0, 2)),
		of(nil, at(0, 2), at(1, 2), at(0, 3)),
		of([]int{2}, at(0, 4), at(0, 4)),
		of([]int{api.MaxSeq}, at(0, api.MaxSeq+2)),
		of([]int{0, 2, 0}, at(1, 4)),
	}
	r := rand.New(rand.NewSource(7))
	for range 200 {
		vec := make([]int, r.Intn(90))
		for k := range vec {
			vec[k] = []int{0, 1, 5, -1, math.MinInt, math.MaxInt, api.MaxSeq + 1}[r.Intn(7)]
		}
		vec = append(vec, -1)
		l = append(l, of(vec, someDots(r, true)...))
	}
	return l
}

func TestRight(t *testing.T) { // P6.1
	for _, c := range []api.Ctx{
		{},
		{Vec: []int{}, Cloud: []api.Dot{}},
		of([]int{1}),
		of([]int{0, 2}, at(1, 4)), // the chapter's example
		of([]int{0, 0, 7}),
		of(nil, at(0, 2)),
		of(nil, at(5, 2), at(5, 3), at(5, 9), at(6, 2)),
		of([]int{2}, at(0, 4), at(1, 2)),
		of([]int{2, 0, 3}, at(0, 4), at(1, 2), at(1, 3), at(2, 5), at(3, 2)),
	} {
		if !Right(c) {
			t.Errorf("%v is not right", c)
		}
	}
	for _, c := range slices.Concat(edges(), drawn(500), small(2, 4)) {
		if !Right(c) {
			t.Errorf("%v is not right", c)
		}
	}
	for _, c := range wrongs() {
		if Right(c) {
			t.Errorf("%v is right", c)
		}
	}
}

// shapes: sets of all small numbers, right or wrong.
func shapes() []api.Ctx {
	vecs := [][]int{nil}
	for a := -1; a <= 2; a++ {
		vecs = append(vecs, []int{a})
		for b := -1; b <= 2; b++ {
			vecs = append(vecs, []int{a, b})
		}
	}
	var dots []api.Dot
	for rep := -1; rep <= 2; rep++ {
		for seq := 0; seq <= 4; seq++ {
			dots = append(dots, at(rep, seq))
		}
	}
	var l []api.Ctx
	for _, vec := range vecs {
		l = append(l, of(vec))
		for _, d := range dots {
			l = append(l, of(vec, d))
			for _, e := range dots {
				l = append(l, of(vec, d, e))
			}
		}
	}
	return l
}

func TestRightIsOneForm(t *testing.T) { // P6.1, P6.13: a set is right where it is the form of its dots, and these are right
	for _, c := range shapes() {
		set, want := plain(c), true
		for d := range set {
			want = want && plainRight(d)
		}
		want = want && plainSame(plainForm(set), c)
		if got := Right(c); got != want {
			t.Fatalf("whether %v is right: %v", c, got)
		}
	}
}

func TestHas(t *testing.T) { // P6.2
	c := of([]int{0, 2}, at(1, 4), at(3, 7))
	odd := of([]int{-3, math.MaxInt, math.MinInt, 2}, at(9, 9), at(0, 0), at(-1, 5), at(1, -1), at(9, 1))
	for _, x := range []struct {
		c    api.Ctx
		d    api.Dot
		want bool
	}{
		{api.Ctx{}, api.Dot{}, false},
		{api.Ctx{}, at(0, 1), false},
		{c, at(1, 1), true},
		{c, at(1, 2), true},
		{c, at(1, 3), false},
		{c, at(1, 4), true},
		{c, at(1, 5), false},
		{c, at(1, 0), false},
		{c, at(1, -1), false},
		{c, at(1, math.MinInt), false},
		{c, at(0, 1), false},
		{c, at(0, 0), false},
		{c, at(2, 1), false},
		{c, at(3, 7), true},
		{c, at(3, 1), false},
		{c, at(7, 3), false},
		{c, at(-1, 1), false},
		{c, at(64, 1), false},
		{c, at(math.MinInt, 1), false},
		{c, at(math.MaxInt, 1), false},
		{c, api.Dot{}, false},
		{of([]int{api.MaxSeq}), at(0, api.MaxSeq), true},
		{of([]int{api.MaxSeq}), at(0, api.MaxSeq+1), false},
		{odd, at(9, 1), true}, // of sets that are not right, too
		{odd, at(9, 9), true},
		{odd, at(9, 2), false},
		{odd, at(0, 0), true},
		{odd, at(0, -3), false},
		{odd, at(0, 1), false},
		{odd, at(-1, 5), true},
		{odd, at(-1, 4), false},
		{odd, at(1, math.MaxInt), true},
		{odd, at(1, -1), true},
		{odd, at(1, -2), false},
		{odd, at(2, 1), false},
		{odd, at(3, 2), true},
		{odd, at(3, 3), false},
		{of(slices.Repeat([]int{3}, 80)), at(79, 3), true},
		{of(slices.Repeat([]int{3}, 80)), at(80, 3), false},
	} {
		if got := Has(x.c, x.d); got != x.want {
			t.Errorf("whether %v has %v: %v", x.c, x.d, got)
		}
	}
}

// around: dots of which sets that are drawn have some.
func around() []api.Dot {
	l := []api.Dot{at(0, math.MaxInt), at(math.MaxInt, 1), at(math.MinInt, math.MinInt), at(0, api.MaxSeq), at(0, api.MaxSeq+1)}
	for _, rep := range []int{-1, 0, 1, 2, 5, 63, 64} {
		for seq := -1; seq <= 7; seq++ {
			l = append(l, at(rep, seq))
		}
	}
	return l
}

func TestHasOfAnySet(t *testing.T) { // P6.2
	for _, c := range slices.Concat(drawn(300), shapes()) {
		set := plain(c)
		for _, d := range around() {
			if got := Has(c, d); got != set[d] {
				t.Fatalf("whether %v has %v: %v", c, d, got)
			}
		}
	}
}

func TestCompact(t *testing.T) { // P6.3
	for _, x := range []struct{ c, want api.Ctx }{
		{api.Ctx{}, api.Ctx{}},
		{of(nil, at(1, 4), at(1, 1), at(1, 2)), of([]int{0, 2}, at(1, 4))},
		{of([]int{0, 2}, at(1, 4)), of([]int{0, 2}, at(1, 4))},
		{of([]int{0, 2}, at(1, 4), at(1, 3)), of([]int{0, 4})},
		{of([]int{0, 2}, at(1, 5), at(1, 3)), of([]int{0, 3}, at(1, 5))},
		{of([]int{0, 2}, at(1, 1), at(1, 2)), of([]int{0, 2})},
		{of([]int{0, 2}, at(0, 1)), of([]int{1, 2})},
		{of([]int{0, 2}, at(2, 1), at(2, 1)), of([]int{0, 2, 1})},
		{of(nil, at(63, 1)), of(append(make([]int, 63), 1))},
		{of(nil, at(64, 1), at(-1, 1), at(0, 0), at(1, -1), at(2, api.MaxSeq+1), at(math.MinInt, math.MaxInt)), api.Ctx{}},
		{of([]int{3}, at(0, 0), at(64, 1), at(0, math.MinInt), at(0, 4)), of([]int{4})},
		{of([]int{api.MaxSeq - 1}, at(0, api.MaxSeq)), of([]int{api.MaxSeq})},
		{of([]int{api.MaxSeq}, at(0, api.MaxSeq+1)), of([]int{api.MaxSeq})},
		{of([]int{api.MaxSeq - 2}, at(0, api.MaxSeq)), of([]int{api.MaxSeq - 2}, at(0, api.MaxSeq))},
		{of(slices.Repeat([]int{2}, 64), at(63, 4), at(0, 3)), of(append([]int{3}, slices.Repeat([]int{2}, 63)...), at(63, 4))},
	} {
		if got := Compact(x.c); !plainSame(got, x.want) {
			t.Errorf("Compact of %v: %v, want %v", x.c, got, x.want)
		}
	}
	r := rand.New(rand.NewSource(8))
	for _, c := range drawn(3000) {
		c.Cloud = append(slices.Clone(c.Cloud), someDots(r, true)...)
		r.Shuffle(len(c.Cloud), func(a, b int) { c.Cloud[a], c.Cloud[b] = c.Cloud[b], c.Cloud[a] })
		if got, want := Compact(c), plainForm(plain(c)); !plainSame(got, want) {
			t.Fatalf("Compact of %v: %v, want %v", c, got, want)
		}
	}
	for _, c := range edges() {
		if got := Compact(c); !plainSame(got, c) {
			t.Errorf("Compact of %v: %v", c, got)
		}
	}
}

func TestOf(t *testing.T) { // P6.4
	if got, want := Of(at(1, 4), at(1, 2), at(1, 1)), of([]int{0, 2}, at(1, 4)); !plainSame(got, want) {
		t.Errorf("of 1.4, 1.2 and 1.1: %v", got)
	}
	if got := Of(); !plainSame(got, api.Ctx{}) {
		t.Errorf("of none: %v", got)
	}
	if got := Of(api.Dot{}, at(-1, 1), at(64, 2), at(0, api.MaxSeq+1)); !plainSame(got, api.Ctx{}) {
		t.Errorf("of such that are not right: %v", got)
	}
	r := rand.New(rand.NewSource(9))
	for range 3000 {
		l := someDots(r, true)
		if got, want := Of(l...), plainForm(plain(of(nil, l...))); !plainSame(got, want) {
			t.Fatalf("of %v: %v, want %v", l, got, want)
		}
	}
}

func TestAdd(t *testing.T) { // P6.5
	for _, x := range []struct {
		c    api.Ctx
		d    api.Dot
		want api.Ctx
	}{
		{api.Ctx{}, at(1, 1), of([]int{0, 1})},
		{api.Ctx{}, at(1, 2), of(nil, at(1, 2))},
		{of([]int{0, 2}, at(1, 4)), at(1, 3), of([]int{0, 4})},
		{of([]int{0, 2}, at(1, 4), at(1, 6)), at(1, 3), of([]int{0, 4}, at(1, 6))},
		{of([]int{0, 2}, at(1, 4)), at(1, 2), of([]int{0, 2}, at(1, 4))},
		{of([]int{0, 2}, at(1, 4)), at(1, 4), of([]int{0, 2}, at(1, 4))},
		{of([]int{0, 2}, at(1, 4)), at(0, 2), of([]int{0, 2}, at(0, 2), at(1, 4))},
		{of([]int{0, 2}, at(1, 4)), at(64, 1), of([]int{0, 2}, at(1, 4))},
		{of([]int{0, 2}, at(1, 4)), at(1, 0), of([]int{0, 2}, at(1, 4))},
		{of([]int{0, 2}, at(1, 4)), api.Dot{}, of([]int{0, 2}, at(1, 4))},
		{of([]int{api.MaxSeq - 1}), at(0, api.MaxSeq), of([]int{api.MaxSeq})},
		{of([]int{api.MaxSeq}), at(0, api.MaxSeq+1), of([]int{api.MaxSeq})},
		{of([]int{5}), at(63, 1), of(append(append([]int{5}, make([]int, 62)...), 1))},
	} {
		if got := Add(x.c, x.d); !plainSame(got, x.want) {
			t.Errorf("%v with %v: %v, want %v", x.c, x.d, got, x.want)
		}
	}
	for _, c := range drawn(300) {
		for _, d := range around() {
			set := plain(c)
			set[d] = true
			if got, want := Add(c, d), plainForm(set); !plainSame(got, want) {
				t.Fatalf("%v with %v: %v, want %v", c, d, got, want)
			}
		}
	}
}

func TestJoin(t *testing.T) { // P6.6
	for _, x := range []struct{ a, b, want api.Ctx }{
		{api.Ctx{}, api.Ctx{}, api.Ctx{}},
		{of([]int{0, 2}, at(1, 4)), api.Ctx{}, of([]int{0, 2}, at(1, 4))},
		{of([]int{0, 2}, at(1, 4)), of(nil, at(1, 3)), of([]int{0, 4})},
		{of([]int{3, 1}), of([]int{1, 2}), of([]int{3, 2})},
		{of([]int{3}), of([]int{1, 0, 2}, at(0, 4)), of([]int{4, 0, 2})},
		{of([]int{0, 1}, at(1, 3)), of([]int{0, 2}), of([]int{0, 3})},
		{of(nil, at(0, 2), at(2, 2)), of(nil, at(1, 2), at(2, 2)), of(nil, at(0, 2), at(1, 2), at(2, 2))},
		{of([]int{api.MaxSeq - 1}), of(nil, at(0, api.MaxSeq)), of([]int{api.MaxSeq})},
		{of([]int{api.MaxSeq}), of(append(make([]int, 63), api.MaxSeq)), of(append(append([]int{api.MaxSeq}, make([]int, 62)...), api.MaxSeq))},
	} {
		if got := Join(x.a, x.b); !plainSame(got, x.want) {
			t.Errorf("%v and %v: %v, want %v", x.a, x.b, got, x.want)
		}
		if got := Join(x.b, x.a); !plainSame(got, x.want) {
			t.Errorf("%v and %v: %v, want %v", x.b, x.a, got, x.want)
		}
	}
	for _, l := range [][]api.Ctx{drawn(150), small(2, 3)} {
		for _, a := range l {
			for _, b := range l {
				if got, want := Join(a, b), plainForm(either(plain(a), plain(b))); !plainSame(got, want) {
					t.Fatalf("%v and %v: %v, want %v", a, b, got, want)
				}
			}
		}
	}
}

func TestJoinIsOfSets(t *testing.T) { // P6.13
	l := slices.Concat(small(2, 2), drawn(15), edges())
	for _, a := range l {
		if got := Join(a, a); !plainSame(got, a) {
			t.Fatalf("%v twice: %v", a, got)
		}
		for _, b := range l {
			both := Join(a, b)
			if !Right(both) || !plainSame(both, Join(b, a)) || !plainSame(Join(both, b), both) || !plainSame(Join(a, both), both) {
				t.Fatalf("%v and %v: %v, the other way %v", a, b, both, Join(b, a))
			}
			for _, c := range l {
				if one, two := Join(both, c), Join(a, Join(b, c)); !plainSame(one, two) {
					t.Fatalf("%v, %v and %v: %v, put together otherwise %v", a, b, c, one, two)
				}
			}
		}
	}
}

func TestSameDotsSameSet(t *testing.T) { // P6.13: in whatever way it came together
	r := rand.New(rand.NewSource(10))
	for range 2000 {
		l := someDots(r, true)
		want := Of(l...)
		var byOne, byTwo api.Ctx
		for k, d := range l {
			byOne = Add(byOne, d)
			byTwo = Join(Of(l[len(l)-1-k]), byTwo)
		}
		other := slices.Clone(l)
		r.Shuffle(len(l), func(a, b int) { other[a], other[b] = other[b], other[a] })
		for _, got := range []api.Ctx{byOne, byTwo, Of(other...), Of(append(other, l...)...), Compact(of(nil, other...))} {
			if !Same(got, want) || !plainSame(got, want) {
				t.Fatalf("of %v: %v, want %v", l, got, want)
			}
		}
	}
}

func TestWithin(t *testing.T) { // P6.7
	c := of([]int{0, 2}, at(1, 4))
	for _, x := range []struct {
		a, b api.Ctx
		want bool
	}{
		{api.Ctx{}, api.Ctx{}, true},
		{api.Ctx{}, c, true},
		{c, api.Ctx{}, false},
		{c, c, true},
		{of([]int{0, 1}), c, true},
		{of([]int{0, 3}), c, false},
		{of(nil, at(1, 2)), c, true},
		{of(nil, at(1, 4)), c, true},
		{of(nil, at(1, 3)), c, false},
		{of(nil, at(1, 5)), c, false},
		{of(nil, at(0, 2)), c, false},
		{of([]int{1}), c, false},
		{of([]int{0, 2}), of([]int{0, 2, 1}), true},
		{of([]int{0, 2, 1}), of([]int{0, 2}), false},
		{of([]int{0, 2, 1}), of([]int{0, 2}, at(2, 2)), false},
		{of(nil, at(2, 2), at(2, 4)), of(nil, at(2, 2), at(2, 3), at(2, 4)), true},
		{of(nil, at(2, 2), at(2, 3), at(2, 4)), of(nil, at(2, 2), at(2, 4)), false},
		{of(nil, at(0, api.MaxSeq)), of([]int{api.MaxSeq}), true},
		{of([]int{api.MaxSeq}), of([]int{api.MaxSeq - 1}), false},
	} {
		if got := Within(x.a, x.b); got != x.want {
			t.Errorf("whether %v is within %v: %v", x.a, x.b, got)
		}
	}
	for _, l := range [][]api.Ctx{drawn(200), small(2, 3)} {
		for _, a := range l {
			for _, b := range l {
				want := true
				for d := range plain(a) {
					want = want && plain(b)[d]
				}
				if got := Within(a, b); got != want {
					t.Fatalf("whether %v is within %v: %v", a, b, got)
				}
				if both := Join(a, b); !Within(a, both) || !Within(b, both) {
					t.Fatalf("%v and %v are not within %v", a, b, both)
				}
			}
		}
	}
}

func TestMost(t *testing.T) { // P6.8
	c := of([]int{3, 2, 0, 1}, at(1, 4), at(1, 9), at(2, 5), at(63, api.MaxSeq))
	for _, x := range []struct{ rep, want int }{
		{0, 3}, {1, 9}, {2, 5}, {3, 1}, {4, 0}, {62, 0}, {63, api.MaxSeq}, {64, 0}, {-1, 0}, {math.MinInt, 0}, {math.MaxInt, 0},
	} {
		if got := Most(c, x.rep); got != x.want {
			t.Errorf("Most of %d's: %d, want %d", x.rep, got, x.want)
		}
		if got := Most(api.Ctx{}, x.rep); got != 0 {
			t.Errorf("Most of %d's of none: %d", x.rep, got)
		}
	}
	for _, c := range drawn(500) {
		for rep := -1; rep <= 64; rep++ {
			want := 0
			for d := range plain(c) {
				if d.Rep == rep {
					want = max(want, d.Seq)
				}
			}
			if got := Most(c, rep); got != want {
				t.Fatalf("Most of %d's of %v: %d, want %d", rep, c, got, want)
			}
		}
	}
}

func TestDots(t *testing.T) { // P6.9
	c := of([]int{2, 0, 3}, at(0, 4), at(1, 2), at(2, 5))
	all := []api.Dot{at(0, 1), at(0, 2), at(2, 1), at(2, 2), at(2, 3), at(0, 4), at(1, 2), at(2, 5)}
	for most := -2; most <= 10; most++ {
		if got, want := Dots(c, most), all[:max(0, min(most, len(all)))]; !slices.Equal(got, want) {
			t.Errorf("the first %d of %v: %v, want %v", most, c, got, want)
		}
	}
	for _, x := range []struct {
		c    api.Ctx
		most int
		want []api.Dot
	}{
		{c, math.MaxInt, all},
		{c, math.MinInt, nil},
		{api.Ctx{}, math.MaxInt, nil},
		{of([]int{0, 2}, at(1, 4)), 9, []api.Dot{at(1, 1), at(1, 2), at(1, 4)}},
		{of(slices.Repeat([]int{api.MaxSeq}, 64)), 3, []api.Dot{at(0, 1), at(0, 2), at(0, 3)}},
		{of(append([]int{1}, slices.Repeat([]int{api.MaxSeq}, 63)...), at(0, 3)), 2, []api.Dot{at(0, 1), at(1, 1)}},
	} {
		if got := Dots(x.c, x.most); !slices.Equal(got, x.want) {
			t.Errorf("the first %d of %v: %v, want %v", x.most, x.c, got, x.want)
		}
	}
}

func TestDotsOfAnySet(t *testing.T) { // P6.9, P6.14: each dot is told once, and what is told makes the set
	for _, c := range slices.Concat(drawn(500), small(2, 4)) {
		all := Dots(c, math.MaxInt)
		set := plain(c)
		if len(all) != len(set) {
			t.Fatalf("%v: %d dots are told, want %d", c, len(all), len(set))
		}
		for k, d := range all {
			if !set[d] || slices.Contains(all[:k], d) {
				t.Fatalf("%v: %v is told", c, d)
			}
		}
		if got := Of(all...); !plainSame(got, c) {
			t.Fatalf("%v, of %v: %v", c, all, got)
		}
		for most := range len(all) + 2 {
			if got := Dots(c, most); !slices.Equal(got, all[:min(most, len(all))]) {
				t.Fatalf("the first %d of %v: %v", most, c, got)
			}
		}
	}
}

func TestSame(t *testing.T) { // P6.10
	if !Same(api.Ctx{}, api.Ctx{Vec: []int{}, Cloud: []api.Dot{}}) {
		t.Error("nil and empty lists are the same")
	}
	for _, x := range []struct{ a, b api.Ctx }{
		{api.Ctx{}, of([]int{1})},
		{api.Ctx{}, of(nil, at(0, 2))},
		{of([]int{1}), of([]int{2})},
		{of([]int{1}), of([]int{1, 1})},
		{of([]int{1, 2}), of([]int{2, 1})},
		{of([]int{1}), of([]int{0, 1})},
		{of(nil, at(0, 2)), of(nil, at(0, 3))},
		{of(nil, at(2, 3)), of(nil, at(3, 2))},
		{of(nil, at(0, 2)), of(nil, at(0, 2), at(0, 3))},
		{of([]int{1}, at(0, 3)), of([]int{1}, at(0, 4))},
		{of([]int{1}, at(0, 3)), of(nil, at(0, 3))},
	} {
		if Same(x.a, x.b) || Same(x.b, x.a) || !Same(x.a, clone(x.a)) || !Same(x.b, clone(x.b)) {
			t.Errorf("%v and %v", x.a, x.b)
		}
	}
	for _, l := range [][]api.Ctx{drawn(200), small(2, 3), edges()} {
		for _, a := range l {
			for _, b := range l {
				if got := Same(a, b); got != plainSame(a, b) || got != (Within(a, b) && Within(b, a)) {
					t.Fatalf("whether %v and %v are the same: %v", a, b, got)
				}
			}
		}
	}
}

func TestPut(t *testing.T) { // P6.11
	for _, x := range []struct {
		c    api.Ctx
		want string
	}{
		{api.Ctx{}, "\x00\x00"},
		{of([]int{0, 2}, at(1, 4)), "\x02\x00\x04\x01\x02\x08"},
		{of([]int{100}), "\x01\xc8\x01\x00"},
		{of(nil, at(0, 2), at(63, api.MaxSeq)), "\x00\x02\x00\x04\x7e\x80\x80\x80\x80\x08"},
		{of([]int{-1, 0}, at(-1, 0), at(-1, 0)), "\x02\x01\x00\x02\x01\x00\x01\x00"}, // what is not right is put, too
		{of([]int{math.MinInt}), "\x01\xff\xff\xff\xff\xff\xff\xff\xff\xff\x01\x00"},
		{of(make([]int, 200)), "\xc8\x01" + strings.Repeat("\x00", 201)},
	} {
		for _, b := range []string{"", "b", "\x80\xff"} {
			if got := Put(b, x.c); got != b+x.want {
				t.Errorf("Put behind %x of %v: %x, want %x", b, x.c, got, x.want)
			}
		}
	}
	for _, c := range slices.Concat(drawn(300), edges(), wrongs(), shapes()) {
		if got, want := Put("b", c), plainPut("b", c); got != want {
			t.Fatalf("Put behind b of %v: %x, want %x", c, got, want)
		}
	}
}

// plainPut is Put by P6.11's words.
func plainPut(b string, c api.Ctx) string {
	b = varint.Put(b, uint64(len(c.Vec)))
	for _, n := range c.Vec {
		b = varint.Int(b, n)
	}
	b = varint.Put(b, uint64(len(c.Cloud)))
	for _, d := range c.Cloud {
		b = dot.Put(b, d)
	}
	return b
}

// plainTake is Take by P6.12's words, one thing behind another.
func plainTake(s string) (api.Ctx, string, api.Errno) {
	var c api.Ctx
	many, s, err := varint.Take(s)
	if err == api.OK && many > 64 {
		err = api.ErrLong
	}
	for k := uint64(0); err == api.OK && k < many; k++ {
		var n int
		n, s, err = varint.TakeInt(s)
		c.Vec = append(c.Vec, n)
	}
	if err == api.OK {
		many, s, err = varint.Take(s)
	}
	if err == api.OK && many > uint64(len(s)) {
		err = api.ErrShort
	}
	for k := uint64(0); err == api.OK && k < many; k++ {
		var d api.Dot
		d, s, err = dot.Take(s)
		c.Cloud = append(c.Cloud, d)
	}
	if err == api.OK && !Right(c) {
		err = api.ErrForm
	}
	if err != api.OK {
		return api.Ctx{}, "", err
	}
	return c, s, api.OK
}

func TestTake(t *testing.T) { // P6.12
	nine := strings.Repeat("\x80", 9)
	for _, x := range []struct {
		s    string
		c    api.Ctx
		rest string
		err  api.Errno
	}{
		{"\x00\x00", api.Ctx{}, "", api.OK},
		{"\x00\x00\x00", api.Ctx{}, "\x00", api.OK},
		{"\x02\x00\x04\x01\x02\x08", of([]int{0, 2}, at(1, 4)), "", api.OK},
		{"\x02\x00\x04\x01\x02\x08rest", of([]int{0, 2}, at(1, 4)), "rest", api.OK},
		{"\x01\x80\x80\x80\x80\x08\x00", of([]int{api.MaxSeq}), "", api.OK},
		{"\x40" + strings.Repeat("\x02", 64) + "\x00", of(slices.Repeat([]int{1}, 64)), "", api.OK},
		{"", api.Ctx{}, "", api.ErrShort},
		{"\x80", api.Ctx{}, "", api.ErrShort},
		{"\x80\x00\x00", api.Ctx{}, "", api.ErrForm},
		{nine + "\x02\x00", api.Ctx{}, "", api.ErrLong},
		{"\x41", api.Ctx{}, "", api.ErrLong}, // more than MaxReps is told as soon as it is read
		{"\x41" + strings.Repeat("\x02", 65) + "\x00", api.Ctx{}, "", api.ErrLong},
		{"\xff\xff\xff\xff\xff\xff\xff\xff\xff\x01", api.Ctx{}, "", api.ErrLong},
		{"\x40", api.Ctx{}, "", api.ErrShort},
		{"\x02\x00", api.Ctx{}, "", api.ErrShort},
		{"\x01\x80\x00\x00", api.Ctx{}, "", api.ErrForm},
		{"\x01" + nine + "\x02\x00", api.Ctx{}, "", api.ErrLong},
		{"\x01\x02", api.Ctx{}, "", api.ErrShort},
		{"\x01\x02\x80", api.Ctx{}, "", api.ErrShort},
		{"\x01\x02\x80\x00", api.Ctx{}, "", api.ErrForm},
		{"\x01\x02" + nine + "\x02", api.Ctx{}, "", api.ErrLong},
		{"\x00\x01", api.Ctx{}, "", api.ErrShort},
		{"\x00\x03\x80\x00", api.Ctx{}, "", api.ErrShort}, // three dots in two bytes: ahead of what is wrong with the first one
		{"\x00\x02\x80\x00", api.Ctx{}, "", api.ErrForm},  // two dots in two bytes: the first one has a longer form
		{"\x00\x02\x00\x04", api.Ctx{}, "", api.ErrShort},
		{"\x00\x01\x00" + nine + "\x02", api.Ctx{}, "", api.ErrLong},
		{"\x00\x02\x80\x01\x02", api.Ctx{}, "", api.ErrForm}, // a dot that is wrong, ahead of one that is short
		{"\x00\xff\xff\xff\xff\xff\xff\xff\xff\xff\x01\x00\x04", api.Ctx{}, "", api.ErrShort},
		{"\x01\x01\x01\x80", api.Ctx{}, "", api.ErrShort},     // a number below 0 is told at the end alone
		{"\x02\x02\x00\x01\x00", api.Ctx{}, "", api.ErrShort}, // so is a nought at the end
		{"\x01\x00\x00", api.Ctx{}, "", api.ErrForm},
		{"\x02\x02\x00\x00", api.Ctx{}, "", api.ErrForm},
		{"\x01\x01\x00", api.Ctx{}, "", api.ErrForm},
		{"\x01\x82\x80\x80\x80\x08\x00", api.Ctx{}, "", api.ErrForm}, // one above MaxSeq
		{"\x00\x01\x00\x00", api.Ctx{}, "", api.ErrForm},             // the zero dot
		{"\x00\x01\x00\x02", api.Ctx{}, "", api.ErrForm},             // 0.1 stands in Vec
		{"\x00\x01\x00\x02rest", api.Ctx{}, "", api.ErrForm},
		{"\x01\x02\x01\x00\x04", api.Ctx{}, "", api.ErrForm},     // so does 0.2 behind 0.1
		{"\x01\x02\x01\x00\x02", api.Ctx{}, "", api.ErrForm},     // 0.1 is there
		{"\x00\x02\x00\x06\x00\x04", api.Ctx{}, "", api.ErrForm}, // not rising
		{"\x00\x02\x00\x04\x00\x04", api.Ctx{}, "", api.ErrForm}, // twice
		{"\x00\x02\x02\x04\x00\x04", api.Ctx{}, "", api.ErrForm}, // replicas that do not rise
		{"\x00\x02\x00\x04\x00\x06", of(nil, at(0, 2), at(0, 3)), "", api.OK},
	} {
		c, rest, err := Take(x.s)
		if !plainSame(c, x.c) || rest != x.rest || err != x.err {
			t.Errorf("Take of %x: %v, %x, %d, want %v, %x, %d", x.s, c, rest, err, x.c, x.rest, x.err)
		}
	}
}

// tails: what may follow a set; some look like parts of one.
var tails = []string{"", "a", "\x00", "\x00\x00", "\x02\x04", "\x80", "\xff\xff\xff\xff\xff\xff\xff\xff\xff\xff\xff"}

func TestPutAndTaken(t *testing.T) { // P6.11, P6.12: what is right comes back
	for _, c := range slices.Concat(drawn(500), small(2, 4), edges()) {
		for _, tail := range append(tails, Put("", c)) {
			got, rest, err := Take(Put("", c) + tail)
			if !plainSame(got, c) || rest != tail || err != api.OK {
				t.Fatalf("Take of %v with %x behind: %v, %x, %d", c, tail, got, rest, err)
			}
		}
	}
}

func TestTakeOfWrongSets(t *testing.T) { // P6.12
	for _, c := range wrongs() {
		want := api.ErrForm
		if len(c.Vec) > 64 {
			want = api.ErrLong
		}
		for _, tail := range tails {
			got, rest, err := Take(Put("", c) + tail)
			if !plainSame(got, api.Ctx{}) || rest != "" || err != want {
				t.Fatalf("Take of %v with %x behind: %v, %x, %d, want %d", c, tail, got, rest, err, want)
			}
		}
	}
}

func TestBeginningsAreNotTaken(t *testing.T) { // P6.12
	for _, c := range slices.Concat(drawn(300), edges()) {
		b := Put("", c)
		for n := range len(b) {
			got, rest, err := Take(b[:n])
			if !plainSame(got, api.Ctx{}) || rest != "" || err != api.ErrShort {
				t.Fatalf("Take of %x, of %v: %v, %x, %d", b[:n], c, got, rest, err)
			}
		}
	}
}

// someBytes: all texts of up to two bytes, some of more, and sets with a few of their bytes changed.
func someBytes() []string {
	l := []string{""}
	for a := range 256 {
		l = append(l, string([]byte{byte(a)}))
		for b := range 256 {
			l = append(l, string([]byte{byte(a), byte(b)}))
		}
	}
	r := rand.New(rand.NewSource(11))
	for range 50000 {
		b := make([]byte, r.Intn(16))
		for k := range b {
			b[k] = byte(r.Intn(1 << (1 + r.Intn(8))))
		}
		l = append(l, string(b))
	}
	for _, c := range drawn(10000) {
		b := []byte(Put("", c))
		for range 1 + r.Intn(3) {
			b[r.Intn(len(b))] = byte(r.Intn(1 << (1 + r.Intn(8))))
		}
		l = append(l, string(b))
	}
	return l
}

func TestTakeOfAnyBytes(t *testing.T) { // P6.12, and R6: what is taken has one form
	for _, s := range someBytes() {
		c, rest, err := Take(s)
		d, more, f := plainTake(s)
		if !plainSame(c, d) || rest != more || err != f {
			t.Fatalf("Take of %x: %v, %x, %d, want %v, %x, %d", s, c, rest, err, d, more, f)
		}
		if err == api.OK && (!Right(c) || Put("", c)+rest != s) {
			t.Fatalf("Take of %x: %v, which is put as %x", s, c, Put("", c))
		}
	}
}

// roomy is c with room behind both lists, and what lies in these rooms.
func roomy(c api.Ctx) (api.Ctx, []int, []api.Dot) {
	vec, cloud := append(slices.Clone(c.Vec), 7, 7, 7), append(slices.Clone(c.Cloud), at(7, 7), at(7, 7), at(7, 7))
	return api.Ctx{Vec: vec[:len(c.Vec)], Cloud: cloud[:len(c.Cloud)]}, vec, cloud
}

// spoil writes over all that c has, and over the room behind its lists.
func spoil(c api.Ctx) {
	for k := range c.Vec[:cap(c.Vec)] {
		c.Vec[:cap(c.Vec)][k] = -9
	}
	spoilDots(c.Cloud)
}

// spoilDots writes over all of l, and over the room behind it.
func spoilDots(l []api.Dot) {
	for k := range l[:cap(l)] {
		l[:cap(l)][k] = at(-9, -9)
	}
}

func TestSetsAreNotChanged(t *testing.T) { // R3: nor the room behind their lists, and answers are new memory
	sets := slices.Concat(drawn(40), edges(), wrongs()[:40])
	for _, a := range sets {
		for _, b := range sets {
			one, vec, cloud := roomy(a)
			two, vecTwo, cloudTwo := roomy(b)
			hadVec, hadCloud, hadVecTwo, hadCloudTwo := slices.Clone(vec), slices.Clone(cloud), slices.Clone(vecTwo), slices.Clone(cloudTwo)
			Right(one)
			Has(one, at(0, 1))
			Same(one, two)
			Within(one, two)
			Most(one, 1)
			Put("b", one)
			spoil(Join(one, two))
			spoil(Join(one, one))
			spoil(Compact(one))
			spoil(Add(one, at(1, 3)))
			spoil(Add(one, at(0, 1)))
			spoil(Add(one, api.Dot{}))
			spoil(Of(one.Cloud...))
			spoilDots(Dots(one, 20))
			if !slices.Equal(vec, hadVec) || !slices.Equal(cloud, hadCloud) || !slices.Equal(vecTwo, hadVecTwo) || !slices.Equal(cloudTwo, hadCloudTwo) {
				t.Fatalf("%v and %v were changed: %v %v, %v %v", a, b, vec, cloud, vecTwo, cloudTwo)
			}
		}
	}
}

func TestSetsThatAreNotRight(t *testing.T) { // R1: all calls end
	sets := wrongs()
	for _, a := range sets {
		for _, b := range sets {
			Join(a, b)
			Within(a, b)
			Same(a, b)
		}
		for _, d := range around() {
			Add(a, d)
			Has(a, d)
			Most(a, d.Rep)
		}
		for most := -1; most < 100; most++ {
			if got := Dots(a, most); len(got) > max(most, 0) {
				t.Fatalf("the first %d of %v: %v", most, a, got)
			}
		}
		Compact(a)
		Of(a.Cloud...)
	}
}

func TestLongSets(t *testing.T) { // P6.3 to P6.12: of many dots
	const n = 1 << 16
	var even, odd []api.Dot
	for k := range n {
		even = append(even, at(k*7%64, 2+2*(k/64)))
		odd = append(odd, at(k*11%64, 1+2*(k/64)))
	}
	a, b := Of(even...), Of(odd...)
	all := of(slices.Repeat([]int{2 * n / 64}, 64))
	if !Right(a) || !Right(b) || len(a.Cloud) != n || len(b.Cloud) != n-64 || !plainSame(Join(a, b), all) {
		t.Fatalf("%d, %d, %v", len(a.Cloud), len(b.Cloud), Join(a, b))
	}
	if !Within(a, a) || !Within(a, all) || Within(a, b) || Within(all, a) || !Within(Of(even[n/2:]...), a) {
		t.Error("within")
	}
	got, rest, err := Take(Put("", a) + "rest")
	if !plainSame(got, a) || rest != "rest" || err != api.OK {
		t.Errorf("Take: %d, %q, %d", len(got.Cloud), rest, err)
	}
	if got := Dots(all, math.MaxInt); len(got) != 2*n || !plainSame(Of(got...), all) {
		t.Errorf("Dots: %d", len(got))
	}
}

func TestTheSameIsToldAgain(t *testing.T) { // R4
	tell := func() string {
		var b strings.Builder
		sets := slices.Concat(drawn(30), wrongs())
		for k, c := range sets {
			other := sets[len(sets)-1-k]
			fmt.Fprintln(&b, Right(c), Has(c, at(0, 1)), Add(c, at(0, 1)), Of(c.Cloud...), Join(c, other), Compact(c))
			fmt.Fprintln(&b, Dots(c, 9), Most(c, 1), Put("b", c), Same(c, other), Within(c, other))
			got, rest, err := Take(Put("", c) + "rest")
			fmt.Fprintln(&b, got, rest, err)
		}
		return b.String()
	}
	if tell() != tell() {
		t.Error("not the same")
	}
}
