package val

import (
	"fmt"
	"math"
	"math/big"
	"math/rand"
	"strings"
	"testing"

	"lorgnette/api"
	"lorgnette/varint"
)

// ints: those near 0, those at the ends, and those around the powers of two.
func ints() []int {
	l := []int{math.MinInt, math.MinInt + 1, math.MaxInt - 1, math.MaxInt}
	for n := -300; n <= 300; n++ {
		l = append(l, n)
	}
	for k := range 63 {
		p := 1 << k
		l = append(l, p-1, p, -p, -p-1)
	}
	return l
}

// texts: the empty one, all of one byte, such as look like other values, and those around MaxText bytes.
func texts() []string {
	l := []string{"", "'", "-", "no", "yes", "-5", "07", "a b", "ab", "abc", "b", "\x00\x00", "\xff\xff", "ä", "\xc3", "a\nb"}
	for a := range 256 {
		l = append(l, string([]byte{byte(a)}))
	}
	for _, n := range []int{127, 128, api.MaxText - 1, api.MaxText} {
		l = append(l, strings.Repeat("x", n), strings.Repeat("\x80", n))
	}
	return l
}

// rights: values that are right, of each kind.
func rights() []api.Value {
	l := []api.Value{{Kind: api.ValBool}, {Kind: api.ValBool, Int: 1}}
	for _, n := range ints() {
		l = append(l, api.Value{Kind: api.ValInt, Int: n})
	}
	for _, s := range texts() {
		l = append(l, api.Value{Kind: api.ValText, Text: s})
	}
	return l
}

// wrongs: values that are not right: none, such of no kind, and such that have too much.
func wrongs() []api.Value {
	long := strings.Repeat("x", api.MaxText+1)
	l := []api.Value{
		{},
		{Int: 1},
		{Text: "a"},
		{Kind: api.ValInt, Text: "a"},
		{Kind: api.ValInt, Int: 7, Text: "\x00"},
		{Kind: api.ValInt, Text: long},
		{Kind: api.ValText, Int: 1},
		{Kind: api.ValText, Int: -1, Text: "a"},
		{Kind: api.ValText, Int: math.MinInt, Text: "a"},
		{Kind: api.ValText, Text: long},
		{Kind: api.ValText, Text: strings.Repeat(long, 9)},
		{Kind: api.ValText, Text: strings.Repeat("ä", api.MaxText/2) + "x"},
		{Kind: api.ValBool, Int: 2},
		{Kind: api.ValBool, Int: -1},
		{Kind: api.ValBool, Int: math.MaxInt},
		{Kind: api.ValBool, Int: math.MinInt},
		{Kind: api.ValBool, Text: "yes"},
		{Kind: api.ValBool, Int: 1, Text: "yes"},
	}
	for _, kind := range []int{math.MinInt, -4, -3, -2, -1, 4, 5, 6, 7, 8, 1 << 32, 1<<32 + 1, math.MaxInt} {
		l = append(l, api.Value{Kind: kind}, api.Value{Kind: kind, Int: 1}, api.Value{Kind: kind, Text: "a"})
	}
	return l
}

func all() []api.Value {
	return append(rights(), wrongs()...)
}

// tails: what may follow a value; some look like parts of one.
var tails = []string{"", "a", "\x00", "\x01", "\x02\x01a", "\x80", "\xff\xff\xff\xff\xff\xff\xff\xff\xff\xff\xff"}

func TestRight(t *testing.T) { // P3.1
	for _, v := range rights() {
		if !Right(v) {
			t.Errorf("%+v is not right", v)
		}
	}
	for _, v := range wrongs() {
		if Right(v) {
			t.Errorf("%+v is right", v)
		}
	}
}

func TestRightCountsBytes(t *testing.T) { // P3.1: of runes there may be fewer
	if v := (api.Value{Kind: api.ValText, Text: strings.Repeat("ä", api.MaxText/2)}); !Right(v) {
		t.Errorf("a text of %d bytes is not right", len(v.Text))
	}
	if v := (api.Value{Kind: api.ValText, Text: strings.Repeat("ä", api.MaxText/2+1)}); Right(v) {
		t.Errorf("a text of %d bytes is right", len(v.Text))
	}
}

func TestCmp(t *testing.T) { // P3.2
	for _, c := range []struct {
		a, b api.Value
		want int
	}{
		{api.Value{}, api.Value{}, 0},
		{api.Value{}, api.Value{Kind: api.ValInt, Int: -9}, -1},
		{api.Value{Kind: -1, Int: 9, Text: "z"}, api.Value{}, -1},
		{api.Value{Kind: api.ValInt, Int: 9}, api.Value{Kind: api.ValText}, -1},
		{api.Value{Kind: api.ValText, Text: "z"}, api.Value{Kind: api.ValBool}, -1},
		{api.Value{Kind: api.ValInt, Int: -1}, api.Value{Kind: api.ValInt}, -1},
		{api.Value{Kind: api.ValInt, Int: 10}, api.Value{Kind: api.ValInt, Int: 9}, 1},
		{api.Value{Kind: api.ValInt, Int: math.MinInt}, api.Value{Kind: api.ValInt, Int: math.MaxInt}, -1},
		{api.Value{Kind: api.ValInt, Int: math.MaxInt}, api.Value{Kind: api.ValInt, Int: -1}, 1},
		{api.Value{Kind: api.ValBool}, api.Value{Kind: api.ValBool, Int: 1}, -1},
		{api.Value{Kind: api.ValText, Text: "ab"}, api.Value{Kind: api.ValText, Text: "ab"}, 0},
		{api.Value{Kind: api.ValText, Text: "ab"}, api.Value{Kind: api.ValText, Text: "abc"}, -1},
		{api.Value{Kind: api.ValText, Text: "b"}, api.Value{Kind: api.ValText, Text: "abc"}, 1},
		{api.Value{Kind: api.ValText, Text: "\x7f"}, api.Value{Kind: api.ValText, Text: "\x80"}, -1},
		{api.Value{Kind: api.ValText, Text: "a"}, api.Value{Kind: api.ValText, Text: "a\x00"}, -1},
		{api.Value{Kind: api.ValText, Text: "Z"}, api.Value{Kind: api.ValText, Text: "a"}, -1},
		{api.Value{Kind: api.ValText, Int: 1, Text: "a"}, api.Value{Kind: api.ValText, Text: "b"}, 1},
		{api.Value{Kind: api.ValInt, Text: "a"}, api.Value{Kind: api.ValInt, Text: "b"}, -1},
		{api.Value{Kind: math.MaxInt}, api.Value{Kind: math.MinInt}, 1},
	} {
		if got := Cmp(c.a, c.b); got != c.want {
			t.Errorf("Cmp of %+v and %+v: %d, want %d", c.a, c.b, got, c.want)
		}
		if got := Cmp(c.b, c.a); got != -c.want {
			t.Errorf("Cmp of %+v and %+v: %d, want %d", c.b, c.a, got, -c.want)
		}
	}
}

// plainCmp tells P3.2 without the library.
func plainCmp(a, b api.Value) int {
	side := func(less bool) int {
		if less {
			return -1
		}
		return 1
	}
	if a.Kind != b.Kind {
		return side(a.Kind < b.Kind)
	}
	if a.Int != b.Int {
		return side(a.Int < b.Int)
	}
	for k := 0; k < len(a.Text) && k < len(b.Text); k++ {
		if a.Text[k] != b.Text[k] {
			return side(a.Text[k] < b.Text[k])
		}
	}
	if len(a.Text) != len(b.Text) {
		return side(len(a.Text) < len(b.Text))
	}
	return 0
}

func TestCmpOfAnyTwo(t *testing.T) { // P3.2, P3.7: one is itself alone, and two stand one way round
	l := all()
	for _, a := range l {
		for _, b := range l {
			got := Cmp(a, b)
			if want := plainCmp(a, b); got != want {
				t.Fatalf("Cmp of %+v and %+v: %d, want %d", a, b, got, want)
			}
			if (got == 0) != (a == b) || Cmp(b, a) != -got {
				t.Fatalf("Cmp of %+v and %+v: %d, and the other way %d", a, b, got, Cmp(b, a))
			}
		}
	}
}

func TestCmpOfAnyThree(t *testing.T) { // P3.7: what is ahead of one is ahead of what is behind that one
	l := all()
	r := rand.New(rand.NewSource(1))
	for range 500000 {
		a, b, c := l[r.Intn(len(l))], l[r.Intn(len(l))], l[r.Intn(len(l))]
		if Cmp(a, b) <= 0 && Cmp(b, c) <= 0 && Cmp(a, c) > 0 {
			t.Fatalf("%+v, %+v, %+v: no order", a, b, c)
		}
	}
}

func TestPut(t *testing.T) { // P3.3
	long := strings.Repeat("x", 300)
	for _, c := range []struct {
		v    api.Value
		want string
	}{
		{api.Value{}, "\x00"},
		{api.Value{Int: 7, Text: "a"}, "\x00"},
		{api.Value{Kind: api.ValInt}, "\x01\x00"},
		{api.Value{Kind: api.ValInt, Int: -5}, "\x01\x09"},
		{api.Value{Kind: api.ValInt, Int: 150, Text: "a"}, "\x01\xac\x02"},
		{api.Value{Kind: api.ValInt, Int: math.MaxInt}, "\x01\xfe\xff\xff\xff\xff\xff\xff\xff\xff\x01"},
		{api.Value{Kind: api.ValInt, Int: math.MinInt}, "\x01\xff\xff\xff\xff\xff\xff\xff\xff\xff\x01"},
		{api.Value{Kind: api.ValText}, "\x02\x00"},
		{api.Value{Kind: api.ValText, Text: "ab"}, "\x02\x02ab"},
		{api.Value{Kind: api.ValText, Int: 9, Text: "\x00\xff"}, "\x02\x02\x00\xff"},
		{api.Value{Kind: api.ValText, Text: long[:200]}, "\x02\xc8\x01" + long[:200]},
		{api.Value{Kind: api.ValText, Text: long}, "\x02\xac\x02" + long}, // too long to be right, and put whole
		{api.Value{Kind: api.ValBool}, "\x03\x00"},
		{api.Value{Kind: api.ValBool, Int: 1}, "\x03\x02"},
		{api.Value{Kind: api.ValBool, Int: -5, Text: "a"}, "\x03\x09"},
		{api.Value{Kind: 4, Int: 1, Text: "a"}, "\x00"},
		{api.Value{Kind: 5, Int: 1, Text: "a"}, "\x01\x02"},
		{api.Value{Kind: 6, Int: 1, Text: "a"}, "\x02\x01a"},
		{api.Value{Kind: 7, Int: 1, Text: "a"}, "\x03\x02"},
		{api.Value{Kind: -1, Int: 1, Text: "a"}, "\x03\x02"},
		{api.Value{Kind: -2, Int: 1, Text: "a"}, "\x02\x01a"},
		{api.Value{Kind: -3, Int: 1, Text: "a"}, "\x01\x02"},
		{api.Value{Kind: -4, Int: 1, Text: "a"}, "\x00"},
		{api.Value{Kind: math.MinInt, Int: 1, Text: "a"}, "\x00"},
		{api.Value{Kind: math.MaxInt, Int: 1, Text: "a"}, "\x03\x02"},
		{api.Value{Kind: 1<<32 + 2, Int: 1, Text: "a"}, "\x02\x01a"},
	} {
		for _, b := range []string{"", "b", "\x80\xff"} {
			if got := Put(b, c.v); got != b+c.want {
				t.Errorf("Put behind %x of %+v: %x, want %x", b, c.v, got, b+c.want)
			}
		}
	}
}

func TestTake(t *testing.T) { // P3.4
	nine := strings.Repeat("\x80", 9)
	long := strings.Repeat("x", 300)
	for _, c := range []struct {
		s    string
		v    api.Value
		rest string
		err  api.Errno
	}{
		{"", api.Value{}, "", api.ErrShort},
		{"\x80", api.Value{}, "", api.ErrShort},
		{"\x81\x00", api.Value{}, "", api.ErrForm},
		{nine + "\x02", api.Value{}, "", api.ErrLong},
		{"\x04", api.Value{}, "", api.ErrForm},
		{"\x04\x02", api.Value{}, "", api.ErrForm},
		{"\x05\x02", api.Value{}, "", api.ErrForm},
		{"\x7f\x02", api.Value{}, "", api.ErrForm},
		{"\x81\x01\x02", api.Value{}, "", api.ErrForm},
		{varint.Put("", 1<<32+1) + "\x02", api.Value{}, "", api.ErrForm},
		{nine + "\x01", api.Value{}, "", api.ErrForm},
		{varint.Put("", math.MaxUint64) + "\x02", api.Value{}, "", api.ErrForm},
		{"\x00", api.Value{}, "", api.OK},
		{"\x00\x80", api.Value{}, "\x80", api.OK},
		{"\x00\x01\x02", api.Value{}, "\x01\x02", api.OK},
		{"\x01", api.Value{}, "", api.ErrShort},
		{"\x01\x80", api.Value{}, "", api.ErrShort},
		{"\x01\x80\x00", api.Value{}, "", api.ErrForm},
		{"\x01" + nine + "\x02", api.Value{}, "", api.ErrLong},
		{"\x01\x00", api.Value{Kind: api.ValInt}, "", api.OK},
		{"\x01\x09", api.Value{Kind: api.ValInt, Int: -5}, "", api.OK},
		{"\x01\x09rest", api.Value{Kind: api.ValInt, Int: -5}, "rest", api.OK},
		{"\x01\xff\xff\xff\xff\xff\xff\xff\xff\xff\x01", api.Value{Kind: api.ValInt, Int: math.MinInt}, "", api.OK},
		{"\x02", api.Value{}, "", api.ErrShort},
		{"\x02\x80\x00", api.Value{}, "", api.ErrForm},
		{"\x02" + nine + "\x02", api.Value{}, "", api.ErrLong},
		{"\x02" + nine + "\x01", api.Value{}, "", api.ErrLong},
		{"\x02\x00", api.Value{Kind: api.ValText}, "", api.OK},
		{"\x02\x00a", api.Value{Kind: api.ValText}, "a", api.OK},
		{"\x02\x02a", api.Value{}, "", api.ErrShort},
		{"\x02\x02abc", api.Value{Kind: api.ValText, Text: "ab"}, "c", api.OK},
		{"\x02\xc8\x01" + long[:200], api.Value{Kind: api.ValText, Text: long[:200]}, "", api.OK},
		{"\x02\xc8\x01" + long[:199], api.Value{}, "", api.ErrShort},
		{"\x02\xc8\x01" + long, api.Value{Kind: api.ValText, Text: long[:200]}, long[200:], api.OK},
		{"\x02\xc9\x01" + long[:201], api.Value{}, "", api.ErrLong},
		{"\x02\xc9\x01", api.Value{}, "", api.ErrLong},
		{"\x03", api.Value{}, "", api.ErrShort},
		{"\x03\x80\x00", api.Value{}, "", api.ErrForm},
		{"\x03" + nine + "\x02", api.Value{}, "", api.ErrLong},
		{"\x03\x00", api.Value{Kind: api.ValBool}, "", api.OK},
		{"\x03\x02", api.Value{Kind: api.ValBool, Int: 1}, "", api.OK},
		{"\x03\x02\x00", api.Value{Kind: api.ValBool, Int: 1}, "\x00", api.OK},
		{"\x03\x01", api.Value{}, "", api.ErrForm},
		{"\x03\x03rest", api.Value{}, "", api.ErrForm},
		{"\x03\x04", api.Value{}, "", api.ErrForm},
		{"\x03\xff\xff\xff\xff\xff\xff\xff\xff\xff\x01", api.Value{}, "", api.ErrForm},
	} {
		v, rest, err := Take(c.s)
		if v != c.v || rest != c.rest || err != c.err {
			t.Errorf("Take of %x: %+v, %x, %d, want %+v, %x, %d", c.s, v, rest, err, c.v, c.rest, c.err)
		}
	}
}

// someBytes: all texts of up to two bytes, and some that begin as a value does.
func someBytes() []string {
	l := []string{""}
	for a := range 256 {
		l = append(l, string([]byte{byte(a)}))
		for b := range 256 {
			l = append(l, string([]byte{byte(a), byte(b)}))
		}
	}
	r := rand.New(rand.NewSource(2))
	for range 50000 {
		b := make([]byte, 1+r.Intn(13))
		for k := range b {
			b[k] = byte(r.Intn(256))
			if r.Intn(4) == 0 {
				b[k] = byte(r.Intn(6))
			}
		}
		b[0] = byte(r.Intn(6))
		l = append(l, string(b))
	}
	return l
}

// plainTake tells P3.4 by its words, one behind another.
func plainTake(s string) (api.Value, string, api.Errno) {
	kind, rest, err := varint.Take(s)
	if err != api.OK {
		return api.Value{}, "", err
	}
	if kind > 3 {
		return api.Value{}, "", api.ErrForm
	}
	if kind == 0 {
		return api.Value{}, rest, api.OK
	}
	if kind == 2 {
		text, rest, err := varint.TakeText(rest, 200)
		if err != api.OK {
			return api.Value{}, "", err
		}
		return api.Value{Kind: 2, Text: text}, rest, api.OK
	}
	n, rest, err := varint.TakeInt(rest)
	if err != api.OK {
		return api.Value{}, "", err
	}
	if kind == 3 && n != 0 && n != 1 {
		return api.Value{}, "", api.ErrForm
	}
	return api.Value{Kind: int(kind), Int: n}, rest, api.OK
}

func TestTakeOfAnyBytes(t *testing.T) { // P3.4, and R6: what is taken has one form
	for _, s := range someBytes() {
		v, rest, err := Take(s)
		w, more, e := plainTake(s)
		if v != w || rest != more || err != e {
			t.Fatalf("Take of %x: %+v, %x, %d, want %+v, %x, %d", s, v, rest, err, w, more, e)
		}
		if err != api.OK {
			continue
		}
		if !Right(v) && v != (api.Value{}) {
			t.Fatalf("Take of %x: %+v, which is not right", s, v)
		}
		if Put("", v)+rest != s {
			t.Fatalf("Take of %x: %+v, which is put as %x", s, v, Put("", v))
		}
	}
}

func TestPutAndTaken(t *testing.T) { // P3.7: what is right, and none, too
	for _, v := range append(rights(), api.Value{}) {
		for _, tail := range append(tails, Put("", v)) {
			w, rest, err := Take(Put("", v) + tail)
			if w != v || rest != tail || err != api.OK {
				t.Fatalf("Take of %+v with %x behind: %+v, %x, %d", v, tail, w, rest, err)
			}
		}
	}
}

func TestBeginningsAreNotTaken(t *testing.T) { // P3.4
	for _, v := range rights() {
		b := Put("", v)
		for n := range len(b) {
			w, rest, err := Take(b[:n])
			if w != (api.Value{}) || rest != "" || err != api.ErrShort {
				t.Fatalf("Take of %x, of %+v: %+v, %x, %d", b[:n], v, w, rest, err)
			}
		}
	}
}

func TestText(t *testing.T) { // P3.5
	long := strings.Repeat("x", 300)
	for _, c := range []struct {
		v    api.Value
		want string
	}{
		{api.Value{}, "-"},
		{api.Value{Int: 7, Text: "a"}, "-"},
		{api.Value{Kind: api.ValInt}, "0"},
		{api.Value{Kind: api.ValInt, Int: 7}, "7"},
		{api.Value{Kind: api.ValInt, Int: -5}, "-5"},
		{api.Value{Kind: api.ValInt, Int: 1000, Text: "a"}, "1000"},
		{api.Value{Kind: api.ValInt, Int: math.MaxInt}, "9223372036854775807"},
		{api.Value{Kind: api.ValInt, Int: math.MinInt}, "-9223372036854775808"},
		{api.Value{Kind: api.ValText}, "'"},
		{api.Value{Kind: api.ValText, Text: "ab"}, "'ab"},
		{api.Value{Kind: api.ValText, Int: 7, Text: "'a b'\n\x00\xff"}, "''a b'\n\x00\xff"},
		{api.Value{Kind: api.ValText, Text: long}, "'" + long},
		{api.Value{Kind: api.ValBool}, "no"},
		{api.Value{Kind: api.ValBool, Int: 1}, "yes"},
		{api.Value{Kind: api.ValBool, Int: 1, Text: "no"}, "yes"},
		{api.Value{Kind: api.ValBool, Int: 2}, "no"},
		{api.Value{Kind: api.ValBool, Int: 3}, "yes"},
		{api.Value{Kind: api.ValBool, Int: -1}, "yes"},
		{api.Value{Kind: api.ValBool, Int: -2}, "no"},
		{api.Value{Kind: api.ValBool, Int: math.MaxInt}, "yes"},
		{api.Value{Kind: api.ValBool, Int: math.MinInt}, "no"},
		{api.Value{Kind: 4, Int: 7, Text: "a"}, "-"},
		{api.Value{Kind: 5, Int: 7, Text: "a"}, "-"}, // the lowest two bits count where it is put, not here
		{api.Value{Kind: 6, Int: 7, Text: "a"}, "-"},
		{api.Value{Kind: 7, Int: 7, Text: "a"}, "-"},
		{api.Value{Kind: -1, Int: 7, Text: "a"}, "-"},
		{api.Value{Kind: math.MinInt, Int: 7, Text: "a"}, "-"},
		{api.Value{Kind: math.MaxInt, Int: 7, Text: "a"}, "-"},
	} {
		if got := Text(c.v); got != c.want {
			t.Errorf("Text of %+v: %q, want %q", c.v, got, c.want)
		}
	}
	for _, n := range ints() {
		if got, want := Text(api.Value{Kind: api.ValInt, Int: n}), big.NewInt(int64(n)).String(); got != want {
			t.Errorf("Text of the number %d: %q", n, got)
		}
	}
}

func TestZero(t *testing.T) { // P3.6
	for _, c := range []struct {
		kind int
		want api.Value
	}{
		{api.ValNone, api.Value{}},
		{api.ValInt, api.Value{Kind: api.ValInt}},
		{api.ValText, api.Value{Kind: api.ValText}},
		{api.ValBool, api.Value{Kind: api.ValBool}},
		{4, api.Value{}},
		{5, api.Value{}},
		{6, api.Value{}},
		{7, api.Value{}},
		{-1, api.Value{}},
		{-3, api.Value{}},
		{math.MinInt, api.Value{}},
		{math.MaxInt, api.Value{}},
		{1<<32 + 1, api.Value{}},
	} {
		got := Zero(c.kind)
		if got != c.want {
			t.Errorf("Zero of %d: %+v, want %+v", c.kind, got, c.want)
		}
		if Right(got) != (got.Kind != api.ValNone) {
			t.Errorf("Zero of %d: %+v, right: %t", c.kind, got, Right(got))
		}
	}
}

func TestTheSameIsToldAgain(t *testing.T) { // R3, R4
	tell := func() string {
		b := Put(Put("", api.Value{Kind: api.ValInt, Int: -5}), api.Value{Kind: api.ValText, Text: "ab"})
		v, rest, e := Take(b)
		w, rest, f := Take(rest + "rest")
		return fmt.Sprintf("%x %s %s %s %d %d %d", b, Text(v), Text(w), rest, e, f, Cmp(v, w))
	}
	if got, again, want := tell(), tell(), "010902026162 -5 'ab rest 0 0 -1"; got != want || again != want {
		t.Errorf("%s, then %s, want %s", got, again, want)
	}
}
