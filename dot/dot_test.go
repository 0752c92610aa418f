package dot

import (
	"fmt"
	"math"
	"math/big"
	"math/rand"
	"slices"
	"strings"
	"testing"

	"lorgnette/api"
	"lorgnette/varint"
)

// reps: all that are right, in order.
func reps() []int {
	var l []int
	for n := range 64 {
		l = append(l, n)
	}
	return l
}

// seqs: some that are right: the small ones, those around the powers of two, and the greatest.
func seqs() []int {
	l := []int{1<<30 - 1, 1 << 30}
	for n := 1; n <= 300; n++ {
		l = append(l, n)
	}
	for k := 9; k < 30; k++ {
		l = append(l, 1<<k-1, 1<<k, 1<<k+1)
	}
	return l
}

// rights: dots that are right.
func rights() []api.Dot {
	var l []api.Dot
	for _, rep := range reps() {
		for _, seq := range seqs() {
			l = append(l, api.Dot{Rep: rep, Seq: seq})
		}
	}
	return l
}

// wrongs: dots that are not right: the zero dot, too.
func wrongs() []api.Dot {
	l := []api.Dot{{}}
	for _, rep := range []int{math.MinInt, math.MinInt + 1, -65, -64, -63, -1 << 32, -2, -1, 64, 65, 127, 128, 1 << 32, 1<<32 + 1, math.MaxInt} {
		for _, seq := range []int{math.MinInt, -1, 0, 1, 7, 1 << 30, 1<<30 + 1, math.MaxInt} {
			l = append(l, api.Dot{Rep: rep, Seq: seq})
		}
	}
	for _, rep := range reps() {
		for _, seq := range []int{math.MinInt, math.MinInt + 1, -1 << 30, -7, -2, -1, 0, 1<<30 + 1, 1<<30 + 2, 1 << 31, 1 << 32, 1<<32 + 1, math.MaxInt} {
			l = append(l, api.Dot{Rep: rep, Seq: seq})
		}
	}
	return l
}

// few: dots of small numbers, and at the ends; any three of them can be gone through.
func few() []api.Dot {
	var l []api.Dot
	for _, rep := range []int{math.MinInt, -1, 0, 1, 2, 63, math.MaxInt} {
		for _, seq := range []int{math.MinInt, -1, 0, 1, 2, 1 << 30, math.MaxInt} {
			l = append(l, api.Dot{Rep: rep, Seq: seq})
		}
	}
	return l
}

// tails: what may follow a dot; some look like parts of one.
var tails = []string{"", "a", "\x00", "\x02\x04", "\x80", "\xff\xff\xff\xff\xff\xff\xff\xff\xff\xff\xff"}

// plainCmp tells P5.2 without the library.
func plainCmp(a, b api.Dot) int {
	switch {
	case a.Rep < b.Rep:
		return -1
	case a.Rep > b.Rep:
		return 1
	case a.Seq < b.Seq:
		return -1
	case a.Seq > b.Seq:
		return 1
	}
	return 0
}

// plainHas tells P5.7 by each number.
func plainHas(l []api.Dot, d api.Dot) bool {
	there := false
	for _, e := range l {
		there = there || e.Rep == d.Rep && e.Seq == d.Seq
	}
	return there
}

// plainSort tells P5.6 by seeking the least one that is above the last one, again and again.
func plainSort(l []api.Dot) []api.Dot {
	var out []api.Dot
	for {
		found := false
		var least api.Dot
		for _, d := range l {
			above := len(out) == 0 || plainCmp(d, out[len(out)-1]) > 0
			if above && (!found || plainCmp(d, least) < 0) {
				found, least = true, d
			}
		}
		if !found {
			return out
		}
		out = append(out, least)
	}
}

// drawn: lists of dots out of few, in any order, some of them more than once.
func drawn(n int) [][]api.Dot {
	from := few()
	r := rand.New(rand.NewSource(1))
	lists := [][]api.Dot{nil, {}}
	for range n {
		l := make([]api.Dot, r.Intn(25))
		for k := range l {
			l[k] = from[r.Intn(len(from))]
		}
		lists = append(lists, l)
	}
	return lists
}

func TestRight(t *testing.T) { // P5.1
	for _, d := range rights() {
		if !Right(d) {
			t.Errorf("%v is not right", d)
		}
	}
	for _, d := range wrongs() {
		if Right(d) {
			t.Errorf("%v is right", d)
		}
	}
}

func TestCmp(t *testing.T) { // P5.2
	for _, c := range []struct {
		a, b api.Dot
		want int
	}{
		{api.Dot{}, api.Dot{}, 0},
		{api.Dot{Rep: 2, Seq: 7}, api.Dot{Rep: 2, Seq: 7}, 0},
		{api.Dot{Rep: 2, Seq: 7}, api.Dot{Rep: 2, Seq: 8}, -1},
		{api.Dot{Rep: 2, Seq: 7}, api.Dot{Rep: 3, Seq: 1}, -1},
		{api.Dot{Rep: 2, Seq: 7}, api.Dot{Rep: 1, Seq: 9}, 1},
		{api.Dot{}, api.Dot{Seq: 1}, -1},
		{api.Dot{Rep: -1, Seq: 9}, api.Dot{}, -1},
		{api.Dot{Rep: 1, Seq: 10}, api.Dot{Rep: 1, Seq: 9}, 1},
		{api.Dot{Rep: 10, Seq: 1}, api.Dot{Rep: 9, Seq: 1}, 1},
		{api.Dot{Seq: math.MinInt}, api.Dot{Seq: math.MaxInt}, -1},
		{api.Dot{Seq: math.MinInt}, api.Dot{Seq: 1}, -1},
		{api.Dot{Rep: math.MinInt}, api.Dot{Rep: math.MaxInt}, -1},
		{api.Dot{Rep: math.MaxInt}, api.Dot{Rep: -1}, 1},
		{api.Dot{Rep: 1 << 32}, api.Dot{Seq: 1}, 1},
	} {
		if got := Cmp(c.a, c.b); got != c.want {
			t.Errorf("Cmp of %v and %v: %d, want %d", c.a, c.b, got, c.want)
		}
		if got := Cmp(c.b, c.a); got != -c.want {
			t.Errorf("Cmp of %v and %v: %d, want %d", c.b, c.a, got, -c.want)
		}
	}
}

func TestCmpOfAnyTwo(t *testing.T) { // P5.2, P5.10: one is itself alone, and two stand one way round
	l := append(few(), wrongs()...)
	for _, a := range l {
		for _, b := range l {
			got := Cmp(a, b)
			if want := plainCmp(a, b); got != want {
				t.Fatalf("Cmp of %v and %v: %d, want %d", a, b, got, want)
			}
			if (got == 0) != (a == b) || Cmp(b, a) != -got {
				t.Fatalf("Cmp of %v and %v: %d, and the other way %d", a, b, got, Cmp(b, a))
			}
		}
	}
}

func TestCmpOfAnyThree(t *testing.T) { // P5.10: what is ahead of one is ahead of what is behind that one
	l := few()
	for _, a := range l {
		for _, b := range l {
			for _, c := range l {
				if Cmp(a, b) <= 0 && Cmp(b, c) <= 0 && Cmp(a, c) > 0 {
					t.Fatalf("%v, %v, %v: no order", a, b, c)
				}
			}
		}
	}
}

func TestPut(t *testing.T) { // P5.3
	for _, c := range []struct {
		d    api.Dot
		want string
	}{
		{api.Dot{}, "\x00\x00"},
		{api.Dot{Rep: 2, Seq: 7}, "\x04\x0e"},
		{api.Dot{Rep: 7, Seq: 2}, "\x0e\x04"},
		{api.Dot{Rep: 0, Seq: 1}, "\x00\x02"},
		{api.Dot{Rep: 63, Seq: 1}, "\x7e\x02"},
		{api.Dot{Rep: 63, Seq: 1 << 30}, "\x7e\x80\x80\x80\x80\x08"},
		{api.Dot{Rep: 1, Seq: 63}, "\x02\x7e"},
		{api.Dot{Rep: 1, Seq: 64}, "\x02\x80\x01"},
		{api.Dot{Rep: 64, Seq: 1}, "\x80\x01\x02"}, // what is not right is put, too
		{api.Dot{Rep: -1, Seq: -5}, "\x01\x09"},
		{api.Dot{Rep: 150, Seq: 0}, "\xac\x02\x00"},
		{api.Dot{Rep: math.MinInt, Seq: math.MaxInt}, "\xff\xff\xff\xff\xff\xff\xff\xff\xff\x01\xfe\xff\xff\xff\xff\xff\xff\xff\xff\x01"},
	} {
		for _, b := range []string{"", "b", "\x80\xff"} {
			if got := Put(b, c.d); got != b+c.want {
				t.Errorf("Put behind %x of %v: %x, want %x", b, c.d, got, b+c.want)
			}
		}
	}
	for _, d := range append(rights(), wrongs()...) {
		if got, want := Put("b", d), "b"+varint.Int("", d.Rep)+varint.Int("", d.Seq); got != want {
			t.Errorf("Put behind b of %v: %x, want %x", d, got, want)
		}
	}
}

func TestTake(t *testing.T) { // P5.4
	nine := strings.Repeat("\x80", 9)
	for _, c := range []struct {
		s    string
		d    api.Dot
		rest string
		err  api.Errno
	}{
		{"\x04\x0e", api.Dot{Rep: 2, Seq: 7}, "", api.OK},
		{"\x04\x0erest", api.Dot{Rep: 2, Seq: 7}, "rest", api.OK},
		{"\x04\x0e\x80", api.Dot{Rep: 2, Seq: 7}, "\x80", api.OK},
		{"\x00\x02", api.Dot{Seq: 1}, "", api.OK},
		{"\x7e\x80\x80\x80\x80\x08", api.Dot{Rep: 63, Seq: 1 << 30}, "", api.OK},
		{"\x00\x00", api.Dot{}, "", api.OK},
		{"\x00\x00\x00", api.Dot{}, "\x00", api.OK},
		{"", api.Dot{}, "", api.ErrShort},
		{"\x80", api.Dot{}, "", api.ErrShort},
		{"\x80\x00\x02", api.Dot{}, "", api.ErrForm},
		{nine + "\x02\x02", api.Dot{}, "", api.ErrLong},
		{"\x04", api.Dot{}, "", api.ErrShort},
		{"\x04\x80", api.Dot{}, "", api.ErrShort},
		{"\x04\x8e\x00", api.Dot{}, "", api.ErrForm},
		{"\x04" + nine + "\x02", api.Dot{}, "", api.ErrLong},
		{"\x04" + nine, api.Dot{}, "", api.ErrShort},
		{"\x80\x01\x02", api.Dot{}, "", api.ErrForm},                // 64.1
		{"\x80\x01\x00", api.Dot{}, "", api.ErrForm},                // 64.0
		{"\x01\x02", api.Dot{}, "", api.ErrForm},                    // -1.1
		{"\x04\x00", api.Dot{}, "", api.ErrForm},                    // 2.0
		{"\x04\x00rest", api.Dot{}, "", api.ErrForm},                // 2.0
		{"\x04\x01", api.Dot{}, "", api.ErrForm},                    // 2.-1
		{"\x00\x01", api.Dot{}, "", api.ErrForm},                    // 0.-1
		{"\x7e\x82\x80\x80\x80\x08", api.Dot{}, "", api.ErrForm},    // 63 and one above MaxSeq
		{"\x80\x80\x80\x80\x20\x02", api.Dot{}, "", api.ErrForm},    // a Rep of 2 to the power 32
		{"\x02\x82\x80\x80\x80\x20", api.Dot{}, "", api.ErrForm},    // a Seq of 2 to the power 32, and one
		{"\x80\x01", api.Dot{}, "", api.ErrShort},                   // 64, and nothing: what is wrong with a dot is told behind both numbers
		{"\x80\x01" + nine + "\x02", api.Dot{}, "", api.ErrLong},    // 64, and a number that is too long
		{"\x01\x80", api.Dot{}, "", api.ErrShort},                   // -1, and half a number
		{"\x80\x01\x80\x00", api.Dot{}, "", api.ErrForm},            // 64, and a number of a longer form
		{nine + "\x01" + nine + "\x01", api.Dot{}, "", api.ErrForm}, // numbers at the ends of int
		{nine + "\x01" + nine + "\x03", api.Dot{}, "", api.ErrLong}, // the second one leaves its 64 bits
		{strings.Repeat("\xff", 1000), api.Dot{}, "", api.ErrLong},
		{"\x00" + strings.Repeat("\x80", 5), api.Dot{}, "", api.ErrShort},
	} {
		d, rest, err := Take(c.s)
		if d != c.d || rest != c.rest || err != c.err {
			t.Errorf("Take of %x: %v, %x, %d, want %v, %x, %d", c.s, d, rest, err, c.d, c.rest, c.err)
		}
	}
}

func TestTakeOfWrongDots(t *testing.T) { // P5.4
	for _, d := range wrongs() {
		if d == (api.Dot{}) {
			continue
		}
		for _, tail := range tails {
			e, rest, err := Take(Put("", d) + tail)
			if e != (api.Dot{}) || rest != "" || err != api.ErrForm {
				t.Fatalf("Take of %v with %x behind: %v, %x, %d", d, tail, e, rest, err)
			}
		}
	}
}

// plainTake tells P5.4 by its words, one behind another.
func plainTake(s string) (api.Dot, string, api.Errno) {
	var n [2]int
	for k := range n {
		m, rest, err := varint.TakeInt(s)
		if err != api.OK {
			return api.Dot{}, "", err
		}
		n[k], s = m, rest
	}
	zero := n[0] == 0 && n[1] == 0
	right := n[0] >= 0 && n[0] < 64 && n[1] >= 1 && n[1] <= 1073741824
	if !zero && !right {
		return api.Dot{}, "", api.ErrForm
	}
	return api.Dot{Rep: n[0], Seq: n[1]}, s, api.OK
}

// someBytes: all texts of up to two bytes, and some of few more.
func someBytes() []string {
	l := []string{""}
	for a := range 256 {
		l = append(l, string([]byte{byte(a)}))
		for b := range 256 {
			l = append(l, string([]byte{byte(a), byte(b)}))
		}
	}
	r := rand.New(rand.NewSource(2))
	for range 50000 {
		b := make([]byte, r.Intn(13))
		for k := range b {
			b[k] = byte(r.Intn(256))
			if r.Intn(3) == 0 {
				b[k] &= 127
			}
		}
		l = append(l, string(b))
	}
	return l
}

func TestTakeOfAnyBytes(t *testing.T) { // P5.4, and R6: what is taken has one form
	for _, s := range someBytes() {
		d, rest, err := Take(s)
		e, more, f := plainTake(s)
		if d != e || rest != more || err != f {
			t.Fatalf("Take of %x: %v, %x, %d, want %v, %x, %d", s, d, rest, err, e, more, f)
		}
		if err == api.OK && Put("", d)+rest != s {
			t.Fatalf("Take of %x: %v, which is put as %x", s, d, Put("", d))
		}
	}
}

func TestPutAndTaken(t *testing.T) { // P5.9: what is right, and the zero dot, too
	for _, d := range append(rights(), api.Dot{}) {
		for _, tail := range append(tails, Put("", d)) {
			e, rest, err := Take(Put("", d) + tail)
			if e != d || rest != tail || err != api.OK {
				t.Fatalf("Take of %v with %x behind: %v, %x, %d", d, tail, e, rest, err)
			}
		}
	}
}

func TestBeginningsAreNotTaken(t *testing.T) { // P5.4
	for _, d := range rights() {
		b := Put("", d)
		for n := range len(b) {
			e, rest, err := Take(b[:n])
			if e != (api.Dot{}) || rest != "" || err != api.ErrShort {
				t.Fatalf("Take of %x, of %v: %v, %x, %d", b[:n], d, e, rest, err)
			}
		}
	}
}

func TestWith(t *testing.T) { // P5.5
	a, b, c := api.Dot{Rep: 1, Seq: 1}, api.Dot{Rep: 1, Seq: 2}, api.Dot{Rep: 2, Seq: 1}
	for _, x := range []struct {
		l    []api.Dot
		d    api.Dot
		want []api.Dot
	}{
		{nil, a, []api.Dot{a}},
		{[]api.Dot{}, a, []api.Dot{a}},
		{nil, api.Dot{}, []api.Dot{{}}}, // what is not right has its place, too
		{[]api.Dot{a}, a, []api.Dot{a}},
		{[]api.Dot{b, c}, a, []api.Dot{a, b, c}},
		{[]api.Dot{a, c}, b, []api.Dot{a, b, c}},
		{[]api.Dot{a, b}, c, []api.Dot{a, b, c}},
		{[]api.Dot{a, b, c}, a, []api.Dot{a, b, c}},
		{[]api.Dot{a, b, c}, b, []api.Dot{a, b, c}},
		{[]api.Dot{a, b, c}, c, []api.Dot{a, b, c}},
		{[]api.Dot{a, b, c}, api.Dot{Rep: -1, Seq: 9}, []api.Dot{{Rep: -1, Seq: 9}, a, b, c}},
		{[]api.Dot{a, b, c}, api.Dot{Rep: 1, Seq: math.MaxInt}, []api.Dot{a, b, {Rep: 1, Seq: math.MaxInt}, c}},
	} {
		if got := With(x.l, x.d); !slices.Equal(got, x.want) {
			t.Errorf("%v with %v: %v, want %v", x.l, x.d, got, x.want)
		}
	}
}

func TestWithOfAnyList(t *testing.T) { // P5.5: what is put in one by one is what is sorted
	for _, l := range drawn(300) {
		rising := plainSort(l)
		for _, d := range few() {
			if got, want := With(rising, d), plainSort(append(slices.Clone(l), d)); !slices.Equal(got, want) {
				t.Fatalf("%v with %v: %v, want %v", rising, d, got, want)
			}
		}
		var got []api.Dot
		for _, d := range l {
			got = With(got, d)
		}
		if !slices.Equal(got, rising) {
			t.Fatalf("one by one of %v: %v, want %v", l, got, rising)
		}
	}
}

func TestSort(t *testing.T) { // P5.6
	a, b, c := api.Dot{Rep: 1, Seq: 2}, api.Dot{Rep: 1, Seq: 10}, api.Dot{Rep: 10, Seq: 1}
	for _, x := range []struct{ l, want []api.Dot }{
		{nil, nil},
		{[]api.Dot{}, nil},
		{[]api.Dot{a}, []api.Dot{a}},
		{[]api.Dot{a, a, a}, []api.Dot{a}},
		{[]api.Dot{a, b, c}, []api.Dot{a, b, c}},
		{[]api.Dot{c, b, a}, []api.Dot{a, b, c}},
		{[]api.Dot{b, c, a, c, b, b}, []api.Dot{a, b, c}},
		{[]api.Dot{a, {}, {Rep: -1, Seq: 5}, {}}, []api.Dot{{Rep: -1, Seq: 5}, {}, a}}, // all: what is not right, too
	} {
		if got := Sort(x.l); !slices.Equal(got, x.want) {
			t.Errorf("Sort of %v: %v, want %v", x.l, got, x.want)
		}
	}
}

func TestSortOfAnyList(t *testing.T) { // P5.6, P5.9: just what was there
	for _, l := range append(drawn(3000), few(), rights()[:500], wrongs()) {
		got := Sort(l)
		if want := plainSort(l); !slices.Equal(got, want) {
			t.Fatalf("Sort of %v: %v, want %v", l, got, want)
		}
		for k, d := range got {
			if k > 0 && plainCmp(got[k-1], d) >= 0 {
				t.Fatalf("Sort of %v: %v does not rise", l, got)
			}
			if !plainHas(l, d) {
				t.Fatalf("Sort of %v has %v, which was not there", l, d)
			}
		}
		for _, d := range l {
			if !plainHas(got, d) {
				t.Fatalf("Sort of %v has lost %v", l, d)
			}
		}
		if again := Sort(got); !slices.Equal(again, got) {
			t.Fatalf("sorted twice: %v, then %v", got, again)
		}
	}
}

func TestHas(t *testing.T) { // P5.7: of lists that do not rise, too
	l := []api.Dot{{Rep: 2, Seq: 7}, {Rep: 1, Seq: 9}, {Rep: 1, Seq: 1}, {Rep: 1, Seq: 9}, {}}
	for _, x := range []struct {
		l    []api.Dot
		d    api.Dot
		want bool
	}{
		{nil, api.Dot{}, false},
		{[]api.Dot{}, api.Dot{Rep: 1, Seq: 1}, false},
		{l[:4], api.Dot{}, false}, // not what lies behind the list's end
		{l, api.Dot{}, true},
		{l, api.Dot{Rep: 2, Seq: 7}, true},
		{l, api.Dot{Rep: 1, Seq: 1}, true},
		{l, api.Dot{Rep: 1, Seq: 9}, true},
		{l, api.Dot{Rep: 7, Seq: 2}, false},
		{l, api.Dot{Rep: 1, Seq: 7}, false},
		{l, api.Dot{Rep: 2, Seq: 1}, false},
		{l, api.Dot{Rep: 2}, false},
		{l, api.Dot{Seq: 7}, false},
	} {
		if got := Has(x.l, x.d); got != x.want {
			t.Errorf("whether %v has %v: %v", x.l, x.d, got)
		}
	}
}

func TestHasOfAnyList(t *testing.T) { // P5.7
	for _, l := range append(drawn(300), few(), wrongs()) {
		for _, d := range few() {
			if got, want := Has(l, d), plainHas(l, d); got != want {
				t.Fatalf("whether %v has %v: %v", l, d, got)
			}
		}
	}
}

func TestText(t *testing.T) { // P5.8
	for _, c := range []struct {
		d    api.Dot
		want string
	}{
		{api.Dot{}, "0.0"},
		{api.Dot{Rep: 2, Seq: 7}, "2.7"},
		{api.Dot{Rep: 7, Seq: 2}, "7.2"},
		{api.Dot{Rep: 10, Seq: 100}, "10.100"},
		{api.Dot{Rep: 63, Seq: 1 << 30}, "63.1073741824"},
		{api.Dot{Rep: -1, Seq: 5}, "-1.5"},
		{api.Dot{Rep: 1, Seq: -5}, "1.-5"},
		{api.Dot{Rep: math.MinInt, Seq: math.MaxInt}, "-9223372036854775808.9223372036854775807"},
	} {
		if got := Text(c.d); got != c.want {
			t.Errorf("Text of %v: %q, want %q", c.d, got, c.want)
		}
	}
	for _, d := range append(rights(), wrongs()...) {
		want := big.NewInt(int64(d.Rep)).String() + "." + big.NewInt(int64(d.Seq)).String()
		if got := Text(d); got != want {
			t.Errorf("Text of %v: %q, want %q", d, got, want)
		}
	}
}

func TestListsAreNotChanged(t *testing.T) { // R3: nor the room behind them, and answers are new memory
	had := []api.Dot{{Rep: 1, Seq: 1}, {Rep: 1, Seq: 3}, {Rep: 2, Seq: 1}, {Rep: 1, Seq: 2}, {Rep: 1, Seq: 1}, {Rep: 9, Seq: 9}}
	room := slices.Clone(had)
	for n := range room {
		for _, d := range []api.Dot{{}, {Rep: 1, Seq: 1}, {Rep: 1, Seq: 2}, {Rep: 2, Seq: 1}, {Rep: 5, Seq: 5}} {
			for _, l := range [][]api.Dot{Sort(room[:n]), With(room[:min(n, 3)], d)} {
				for k := range l {
					l[k] = api.Dot{Rep: 7, Seq: 7}
				}
				if l = append(l, api.Dot{Rep: 8, Seq: 8}); Has(room, l[len(l)-1]) {
					t.Fatalf("the first %d with %v: %v shares its room", n, d, l)
				}
			}
			if Has(room[:n], d) != plainHas(had[:n], d) || !slices.Equal(room, had) {
				t.Fatalf("the first %d with %v: changed to %v", n, d, room)
			}
		}
	}
}

func TestListsThatDoNotRise(t *testing.T) { // R1, R3: With is promised nothing else of them
	for _, l := range drawn(300) {
		had := slices.Clone(l)
		for _, d := range few() {
			With(l, d)
		}
		if !slices.Equal(l, had) {
			t.Fatalf("%v was changed to %v", had, l)
		}
	}
}

func TestLongLists(t *testing.T) { // P5.5, P5.6, P5.7
	const n = 1 << 17
	l := make([]api.Dot, 0, 2*n)
	for k := range n {
		d := api.Dot{Rep: k * 7 % 64, Seq: 1 + k*37%n}
		l = append(l, d, d)
	}
	sorted := Sort(l)
	if len(sorted) != n {
		t.Fatalf("%d of %d", len(sorted), n)
	}
	last := api.Dot{Rep: 63, Seq: api.MaxSeq}
	if got := With(sorted, last); Has(sorted, last) || !Has(got, last) || len(got) != n+1 || got[n] != last {
		t.Fatalf("with the last one: %d", len(got))
	}
}

func TestTheSameIsToldAgain(t *testing.T) { // R4
	tell := func() string {
		var b strings.Builder
		for _, l := range drawn(50) {
			fmt.Fprintln(&b, Sort(l), Has(l, api.Dot{Rep: 1, Seq: 1}), With(Sort(l), api.Dot{Rep: 1, Seq: 1}))
			for _, d := range l {
				e, rest, err := Take(Put("", d) + "rest")
				fmt.Fprintln(&b, Right(d), Cmp(d, l[0]), Text(d), e, rest, err)
			}
		}
		return b.String()
	}
	if tell() != tell() {
		t.Error("not the same")
	}
}
