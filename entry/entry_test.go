package entry

import (
	"fmt"
	"math"
	"math/rand"
	"regexp"
	"slices"
	"strings"
	"testing"

	"lorgnette/api"
	"lorgnette/dot"
	"lorgnette/val"
	"lorgnette/varint"
)

// at is a dot, shortly.
func at(rep, seq int) api.Dot {
	return api.Dot{Rep: rep, Seq: seq}
}

// number and text are values, shortly.
func number(n int) api.Value {
	return api.Value{Kind: api.ValInt, Int: n}
}

func text(s string) api.Value {
	return api.Value{Kind: api.ValText, Text: s}
}

// longest is the longest path: six segments of 16 bytes.
var longest = strings.Repeat("abcdefghijklmno0/", 6)[:101]

// What the parts of an entry may be, and what they may not.
var (
	dots      = []api.Dot{at(0, 1), at(1, 2), at(5, 64), at(63, 1), at(0, 1<<30), at(63, 1<<30)}
	wrongDots = []api.Dot{at(0, 0), at(1, 0), at(0, -1), at(-1, 1), at(64, 1), at(0, 1<<30+1), at(63, 1<<32+1), at(1<<32, 1), at(math.MinInt, math.MaxInt)}

	paths      = []string{"a", "_", "0", "name", "a/b", "z_9/0/a", strings.Repeat("x", 16), "a/b/c/d/e/f", longest}
	wrongPaths = []string{"", "/", "a/", "/a", "a//b", "A", "a b", "a.b", "*", "a/*", "ä", "a\n", "a/\x00", "\xff", strings.Repeat("x", 17), "a/b/c/d/e/f/g", longest + "p", longest + "/", longest + "/a", strings.Repeat("a/", 200) + "a"}

	vals      = []api.Value{number(0), number(5), number(-5), number(math.MinInt), number(math.MaxInt), text(""), text("ada"), text("'\n\x00\xff"), text(strings.Repeat("x", 200)), {Kind: api.ValBool}, {Kind: api.ValBool, Int: 1}}
	wrongVals = []api.Value{{}, {Int: 1}, {Kind: 1, Text: "a"}, {Kind: 2, Int: 1}, text(strings.Repeat("x", 201)), {Kind: 3, Int: 2}, {Kind: 3, Int: -1}, {Kind: 3, Text: "yes"}, {Kind: 4}, {Kind: 5, Int: 7}, {Kind: -1}, {Kind: math.MinInt}}

	kinds      = []int{api.FieldReg, api.FieldSet, api.FieldCtr}
	wrongKinds = []int{0, 4, 5, 6, 7, 8, -1, -2, -3, -4, 1 << 32, 1<<32 + 1, math.MinInt, math.MinInt + 1, math.MaxInt, math.MaxInt - 1}

	vers      = append([]api.Dot{{}}, dots...)
	wrongVers = wrongDots[1:]
)

// tails: what may follow an entry; some look like parts of one.
var tails = []string{"", "a", "\x00", "\x02\x04\x03a/b", "\x80", "\xff\xff\xff\xff\xff\xff\xff\xff\xff\xff\xff"}

// nine: a number that no byte has ended yet, and that only one byte may end.
var nine = strings.Repeat("\x80", 9)

// rights: entries that are right, of all parts that may stand together.
func rights() []api.Entry {
	var l []api.Entry
	for _, d := range dots {
		for _, p := range paths {
			for _, v := range vals {
				for _, ver := range vers {
					l = append(l, api.Entry{Dot: d, Path: p, Kind: api.FieldReg, Val: v, Ver: ver})
					l = append(l, api.Entry{Dot: d, Path: p, Kind: api.FieldSet, Val: v, Ver: ver})
					if v.Kind == api.ValInt {
						l = append(l, api.Entry{Dot: d, Path: p, Kind: api.FieldCtr, Val: v, Ver: ver})
					}
				}
			}
		}
	}
	return l
}

// wrongs: entries that are not right, by one of their parts alone.
func wrongs() []api.Entry {
	var l []api.Entry
	for _, x := range []api.Entry{
		{Dot: at(1, 2), Path: "a/b", Kind: api.FieldReg, Val: number(5)},
		{Dot: at(0, 1), Path: longest, Kind: api.FieldSet, Val: text("ada"), Ver: at(3, 1)},
		{Dot: at(63, 1<<30), Path: "a", Kind: api.FieldCtr, Val: number(-1), Ver: at(0, 1)},
	} {
		add := func(change func(x *api.Entry)) {
			y := x
			change(&y)
			l = append(l, y)
		}
		for _, d := range wrongDots {
			add(func(x *api.Entry) { x.Dot = d })
		}
		for _, p := range wrongPaths {
			add(func(x *api.Entry) { x.Path = p })
		}
		for _, k := range wrongKinds {
			add(func(x *api.Entry) { x.Kind = k })
		}
		for _, v := range wrongVals {
			add(func(x *api.Entry) { x.Val = v })
		}
		for _, d := range wrongVers {
			add(func(x *api.Entry) { x.Ver = d })
		}
	}
	for _, v := range vals {
		if v.Kind != api.ValInt { // a counter of what is no number
			l = append(l, api.Entry{Dot: at(1, 2), Path: "a/b", Kind: api.FieldCtr, Val: v})
		}
	}
	return append(l, api.Entry{})
}

// drawn: entries of any parts, right and wrong.
func drawn(r *rand.Rand, n int) []api.Entry {
	dots, paths, vals := slices.Concat(dots, dots, dots, wrongDots), slices.Concat(paths, paths, paths, wrongPaths), slices.Concat(vals, vals, vals, wrongVals)
	kinds := slices.Concat(kinds, kinds, kinds, kinds, kinds, kinds, wrongKinds)
	l := make([]api.Entry, n)
	for k := range l {
		l[k] = api.Entry{Dot: dots[r.Intn(len(dots))], Path: paths[r.Intn(len(paths))], Kind: kinds[r.Intn(len(kinds))], Val: vals[r.Intn(len(vals))]}
		if r.Intn(2) == 0 {
			l[k].Ver = dots[r.Intn(len(dots))]
		}
	}
	return l
}

// pathForm is how P4.4 reads.
var pathForm = regexp.MustCompile(`\A[a-z0-9_]{1,16}(/[a-z0-9_]{1,16}){0,5}\z`)

// plainRight tells P7.1 by its words, of the numbers alone.
func plainRight(x api.Entry) bool {
	name := func(d api.Dot) bool { return d.Rep >= 0 && d.Rep < 64 && d.Seq >= 1 && d.Seq <= 1073741824 }
	isInt := x.Val.Kind == 1 && x.Val.Text == ""
	isText := x.Val.Kind == 2 && x.Val.Int == 0 && len(x.Val.Text) <= 200
	isBool := x.Val.Kind == 3 && x.Val.Text == "" && (x.Val.Int == 0 || x.Val.Int == 1)
	kind := x.Kind == 1 || x.Kind == 2 || x.Kind == 3 && x.Val.Kind == 1
	zero := x.Ver.Rep == 0 && x.Ver.Seq == 0
	return name(x.Dot) && pathForm.MatchString(x.Path) && (isInt || isText || isBool) && (name(x.Ver) || zero) && kind
}

func TestRight(t *testing.T) { // P7.1
	for _, x := range rights() {
		if !Right(x) {
			t.Errorf("%+v is not right", x)
		}
	}
	for _, x := range wrongs() {
		if Right(x) {
			t.Errorf("%+v is right", x)
		}
	}
	for _, x := range drawn(rand.New(rand.NewSource(1)), 100000) {
		if got, want := Right(x), plainRight(x); got != want {
			t.Errorf("whether %+v is right: %t, want %t", x, got, want)
		}
	}
}

func TestCmp(t *testing.T) { // P7.2: the dots alone count
	for _, c := range []struct {
		a, b api.Entry
		want int
	}{
		{api.Entry{}, api.Entry{}, 0},
		{api.Entry{Dot: at(1, 2)}, api.Entry{Dot: at(1, 2)}, 0},
		{api.Entry{Dot: at(1, 2), Path: "b", Kind: 2, Val: number(9), Ver: at(2, 2)}, api.Entry{Dot: at(1, 2), Path: "a", Kind: 1, Val: text("a"), Ver: at(1, 1)}, 0},
		{api.Entry{Dot: at(1, 2), Path: "b", Kind: 2, Val: number(9), Ver: at(2, 2)}, api.Entry{Dot: at(1, 3), Path: "a", Kind: 1, Val: number(1), Ver: at(1, 1)}, -1},
		{api.Entry{Dot: at(1, 9), Path: "b", Ver: at(2, 2)}, api.Entry{Dot: at(2, 1), Path: "a"}, -1},
		{api.Entry{Dot: at(10, 1)}, api.Entry{Dot: at(9, 7)}, 1},
		{api.Entry{Dot: at(0, 10)}, api.Entry{Dot: at(0, 9)}, 1},
		{api.Entry{Dot: at(-1, 9)}, api.Entry{Path: "a"}, -1},
		{api.Entry{Dot: at(math.MinInt, 1)}, api.Entry{Dot: at(math.MaxInt, 1)}, -1},
		{api.Entry{Dot: at(0, math.MinInt)}, api.Entry{Dot: at(0, math.MaxInt)}, -1},
	} {
		if got := Cmp(c.a, c.b); got != c.want {
			t.Errorf("Cmp of %+v and %+v: %d, want %d", c.a, c.b, got, c.want)
		}
		if got := Cmp(c.b, c.a); got != -c.want {
			t.Errorf("Cmp of %+v and %+v: %d, want %d", c.b, c.a, got, -c.want)
		}
	}
	l := append(wrongs(), drawn(rand.New(rand.NewSource(2)), 500)...)
	for _, a := range l {
		for _, b := range l {
			if got, want := Cmp(a, b), dot.Cmp(a.Dot, b.Dot); got != want {
				t.Fatalf("Cmp of %+v and %+v: %d, want %d", a, b, got, want)
			}
		}
	}
}

func TestPut(t *testing.T) { // P7.3
	long := strings.Repeat("x", 300)
	for _, c := range []struct {
		x    api.Entry
		want string
	}{
		{api.Entry{Dot: at(1, 2), Path: "a/b", Kind: api.FieldReg, Val: number(5)}, "\x02\x04\x03a/b\x01\x01\x0a\x00\x00"}, // the chapter's example
		{api.Entry{Dot: at(2, 7), Path: "tags", Kind: api.FieldSet, Val: text("ab"), Ver: at(3, 1)}, "\x04\x0e\x04tags\x02\x02\x02ab\x06\x02"},
		{api.Entry{Dot: at(0, 1), Path: "n", Kind: api.FieldCtr, Val: number(-5), Ver: at(0, 64)}, "\x00\x02\x01n\x03\x01\x09\x00\x80\x01"},
		{api.Entry{Dot: at(63, 1<<30), Path: "a", Kind: api.FieldReg, Val: api.Value{Kind: api.ValBool, Int: 1}, Ver: at(63, 1)}, "\x7e\x80\x80\x80\x80\x08\x01a\x01\x03\x02\x7e\x02"},
		{api.Entry{}, "\x00\x00\x00\x00\x00\x00\x00"}, // what is not right is put, too
		{api.Entry{Dot: at(64, -5), Path: "A b", Kind: 4, Ver: at(-1, 0)}, "\x80\x01\x09\x03A b\x00\x00\x01\x00"},
		{api.Entry{Path: long, Kind: 5, Val: text(long)}, "\x00\x00\xac\x02" + long + "\x01\x02\xac\x02" + long + "\x00\x00"},
		{api.Entry{Kind: 6}, "\x00\x00\x00\x02\x00\x00\x00"},
		{api.Entry{Kind: 7}, "\x00\x00\x00\x03\x00\x00\x00"},
		{api.Entry{Kind: -1}, "\x00\x00\x00\x03\x00\x00\x00"},
		{api.Entry{Kind: -2}, "\x00\x00\x00\x02\x00\x00\x00"},
		{api.Entry{Kind: math.MinInt}, "\x00\x00\x00\x00\x00\x00\x00"},
		{api.Entry{Kind: math.MaxInt}, "\x00\x00\x00\x03\x00\x00\x00"},
		{api.Entry{Val: api.Value{Kind: 5, Int: 1, Text: "a"}}, "\x00\x00\x00\x00\x01\x02\x00\x00"},
	} {
		for _, b := range []string{"", "b", "\x80\xff"} {
			if got := Put(b, c.x); got != b+c.want {
				t.Errorf("Put behind %x of %+v: %x, want %x", b, c.x, got, b+c.want)
			}
		}
	}
	for _, x := range slices.Concat(rights(), wrongs(), drawn(rand.New(rand.NewSource(3)), 5000)) {
		want := "b" + dot.Put("", x.Dot) + varint.Text("", x.Path) + varint.Put("", uint64((x.Kind%4+4)%4)) + val.Put("", x.Val) + dot.Put("", x.Ver)
		if got := Put("b", x); got != want {
			t.Errorf("Put behind b of %+v: %x, want %x", x, got, want)
		}
	}
}

func TestTake(t *testing.T) { // P7.4: what is taken
	last := "\x7e\x80\x80\x80\x80\x08"
	for _, c := range []struct {
		s    string
		want api.Entry
	}{
		{"\x02\x04\x03a/b\x01\x01\x0a\x00\x00", api.Entry{Dot: at(1, 2), Path: "a/b", Kind: api.FieldReg, Val: number(5)}},
		{"\x04\x0e\x04tags\x02\x02\x02ab\x06\x02", api.Entry{Dot: at(2, 7), Path: "tags", Kind: api.FieldSet, Val: text("ab"), Ver: at(3, 1)}},
		{"\x00\x02\x01n\x03\x01\x09\x00\x80\x01", api.Entry{Dot: at(0, 1), Path: "n", Kind: api.FieldCtr, Val: number(-5), Ver: at(0, 64)}},
		{last + "\x65" + longest + "\x01\x02\xc8\x01" + strings.Repeat("y", 200) + last, api.Entry{Dot: at(63, 1<<30), Path: longest, Kind: api.FieldReg, Val: text(strings.Repeat("y", 200)), Ver: at(63, 1<<30)}},
		{"\x00\x02\x01_\x01\x03\x00\x00\x00", api.Entry{Dot: at(0, 1), Path: "_", Kind: api.FieldReg, Val: api.Value{Kind: api.ValBool}}},
	} {
		for _, tail := range tails {
			x, rest, err := Take(c.s + tail)
			if x != c.want || rest != tail || err != api.OK {
				t.Errorf("Take of %x with %x behind: %+v, %x, %d, want %+v", c.s, tail, x, rest, err, c.want)
			}
		}
	}
}

// untaken takes s, which must be told by that error, with nothing beside it.
func untaken(t *testing.T, s string, want api.Errno) {
	t.Helper()
	x, rest, err := Take(s)
	if x != (api.Entry{}) || rest != "" || err != want {
		t.Errorf("Take of %x: %+v, %x, %d, want %d", s, x, rest, err, want)
	}
}

func TestTakeTellsTheFirstError(t *testing.T) { // P7.4: part by part, whatever else is wrong behind it
	d, p, k, v := "\x02\x04", "\x03a/b", "\x01", "\x01\x0a"
	for _, c := range []struct {
		begin, part string
		want        api.Errno
	}{
		{"", "", api.ErrShort},
		{"", "\x80", api.ErrShort},
		{"", "\x02", api.ErrShort},
		{"", "\x02\x80\x00", api.ErrForm},
		{"", nine + "\x02", api.ErrLong},
		{"", "\x80\x01\x02", api.ErrForm},             // 64.1
		{"", "\x02\x00", api.ErrForm},                 // 1.0
		{"", "\x01\x02", api.ErrForm},                 // -1.1
		{"", "\x00\x82\x80\x80\x80\x08", api.ErrForm}, // one above MaxSeq
		{d, "", api.ErrShort},
		{d, "\x80", api.ErrShort},
		{d, "\x83\x00", api.ErrForm},
		{d, nine + "\x02", api.ErrLong},
		{d, "\x03a/", api.ErrShort},
		{d, "\x66", api.ErrShort}, // 102 bytes may be there
		{d, "\x67", api.ErrLong},  // 103 may not
		{d, "\x67" + strings.Repeat("a", 103), api.ErrLong},
		{d, nine + "\x01", api.ErrLong},
		{"\x00\x00", "\x67", api.ErrLong}, // behind the zero dot, which is told at the end
		{"\x00\x00", "", api.ErrShort},
		{d + p, "", api.ErrShort},
		{d + p, "\x80", api.ErrShort},
		{d + p, "\x81\x00", api.ErrForm},
		{d + p, nine + "\x02", api.ErrLong},
		{d + "\x03A b", "\x81\x00", api.ErrForm}, // behind what is no path, which is told at the end
		{d + "\x03A b", nine + "\x02", api.ErrLong},
		{d + "\x00", "", api.ErrShort},
		{d + p + k, "", api.ErrShort},
		{d + p + k, "\x80", api.ErrShort},
		{d + p + k, "\x04", api.ErrForm},
		{d + p + k, "\x03\x04", api.ErrForm}, // a truth of 2
		{d + p + k, "\x01", api.ErrShort},
		{d + p + k, "\x01" + nine + "\x02", api.ErrLong},
		{d + p + k, "\x02\xc9\x01", api.ErrLong}, // 201 bytes
		{d + p + k, "\x02\x02a", api.ErrShort},
		{d + p + "\x00", "\x02\xc9\x01", api.ErrLong}, // behind a kind that there is not, which is told at the end
		{d + p + "\x04", "\x02\xc9\x01", api.ErrLong},
		{d + p + "\x04", "", api.ErrShort},
		{d + p + nine + "\x01", "", api.ErrShort},
		{d + p + k + v, "", api.ErrShort},
		{d + p + k + v, "\x80", api.ErrShort},
		{d + p + k + v, "\x00", api.ErrShort},
		{d + p + k + v, nine + "\x02", api.ErrLong},
		{d + p + k + v, "\x00\x80\x00", api.ErrForm},
		{d + p + k + v, "\x80\x01\x02", api.ErrForm},
		{d + p + k + v, "\x02\x00", api.ErrForm},
		{d + p + k + "\x00", "", api.ErrShort},                // behind no value, which is told at the end
		{d + p + k + "\x00", nine + "\x02", api.ErrLong},      //
		{d + p + "\x03\x03\x02", "", api.ErrShort},            // behind a counter that is no number, likewise
		{d + p + "\x03\x02\x01a", nine + "\x02", api.ErrLong}, //
	} {
		untaken(t, c.begin+c.part, c.want)
		if c.want != api.ErrShort {
			untaken(t, c.begin+c.part+"\x67"+nine+"\x02rest", c.want)
		}
	}
}

func TestTakeOfWrongEntries(t *testing.T) { // P7.4: what is told at the end, by ErrForm
	for _, s := range []string{
		"\x00\x00\x03a/b\x01\x01\x0a\x00\x00",              // the zero dot
		"\x02\x04\x00\x01\x01\x0a\x00\x00",                 // no path
		"\x02\x04\x03a//\x01\x01\x0a\x00\x00",              // none
		"\x02\x04\x03a/*\x01\x01\x0a\x00\x00",              // a pattern
		"\x02\x04\x03A/b\x01\x01\x0a\x00\x00",              // a segment that is none
		"\x02\x04\x66" + longest + "a\x01\x01\x0a\x00\x00", // 102 bytes, one of them too many
		"\x02\x04\x66" + longest + "/\x01\x01\x0a\x00\x00",
		"\x02\x04\x0da/b/c/d/e/f/g\x01\x01\x0a\x00\x00", // seven segments
		"\x02\x04\x03a/b\x00\x01\x0a\x00\x00",           // kinds that there are not
		"\x02\x04\x03a/b\x04\x01\x0a\x00\x00",
		"\x02\x04\x03a/b\x05\x01\x0a\x00\x00",
		"\x02\x04\x03a/b\x81\x80\x80\x80\x10\x01\x0a\x00\x00",                     // 2 to the power 32, and one
		"\x02\x04\x03a/b\x81\x80\x80\x80\x80\x80\x80\x80\x80\x01\x01\x0a\x00\x00", // 2 to the power 63, and one
		"\x02\x04\x03a/b\xff\xff\xff\xff\xff\xff\xff\xff\xff\x01\x01\x0a\x00\x00", // the greatest number
		"\x02\x04\x03a/b\x01\x00\x00\x00",                                         // no value
		"\x02\x04\x03a/b\x03\x02\x01a\x00\x00",                                    // counters that are no numbers
		"\x02\x04\x03a/b\x03\x03\x02\x00\x00",
		"\x02\x04\x03a/b\x03\x00\x00\x00",
		"\x00\x00\x00\x00\x00\x00\x00", // all of it zero
	} {
		for _, tail := range tails {
			untaken(t, s+tail, api.ErrForm)
		}
	}
}

// plainTake tells P7.4 by its words, one part behind another, each by its numbers.
func plainTake(s string) (api.Entry, string, api.Errno) {
	var err api.Errno
	need := func(holds bool, e api.Errno) {
		if err == api.OK && !holds {
			err = e
		}
	}
	num := func() uint64 {
		if err != api.OK {
			return 0
		}
		var n uint64
		n, s, err = varint.Take(s)
		return n
	}
	whole := func() int { return varint.Zag(num()) }
	bytes := func(most uint64) string {
		n := num()
		need(n <= most, api.ErrLong)
		need(n <= uint64(len(s)), api.ErrShort)
		if err != api.OK {
			return ""
		}
		text := s[:n]
		s = s[n:]
		return text
	}
	name := func() api.Dot {
		d := at(whole(), whole())
		need(d == at(0, 0) || d.Rep >= 0 && d.Rep < 64 && d.Seq >= 1 && d.Seq <= 1073741824, api.ErrForm)
		return d
	}
	value := func() api.Value {
		n := num()
		need(n <= 3, api.ErrForm)
		v := api.Value{Kind: int(n)}
		switch v.Kind {
		case 1:
			v.Int = whole()
		case 2:
			v.Text = bytes(200)
		case 3:
			v.Int = whole()
			need(v.Int == 0 || v.Int == 1, api.ErrForm)
		}
		return v
	}
	x := api.Entry{Dot: name()}
	x.Path = bytes(6 * 17)
	kind := num()
	x.Kind = int(kind)
	x.Val = value()
	x.Ver = name()
	need(kind <= 3 && plainRight(x), api.ErrForm)
	if err != api.OK {
		return api.Entry{}, "", err
	}
	return x, s, api.OK
}

// someBytes: entries, right and wrong, whole, or cut off, or with some of their bytes changed, and what is none at all.
func someBytes() []string {
	r := rand.New(rand.NewSource(4))
	l := []string{""}
	for a := range 256 {
		for b := range 256 {
			l = append(l, string([]byte{byte(a), byte(b)}))
		}
	}
	for _, x := range append(wrongs(), drawn(r, 50000)...) {
		b := []byte(Put("", x))
		l = append(l, string(b), string(b)+"rest", string(b[:r.Intn(len(b))]))
		for range 1 + r.Intn(3) {
			b[r.Intn(len(b))] = byte(r.Intn(1 << (1 + r.Intn(8))))
		}
		l = append(l, string(b))
	}
	short := api.Entry{Dot: at(1, 2), Path: "a", Kind: api.FieldReg, Val: number(5)}
	for range 200000 {
		b := []byte(Put("", short))
		for range 1 + r.Intn(3) {
			b[r.Intn(len(b))] = byte(r.Intn(1 << (1 + r.Intn(8))))
		}
		l = append(l, string(b))
	}
	return l
}

func TestTakeOfAnyBytes(t *testing.T) { // P7.4, and R6: what is taken has one form
	for _, s := range someBytes() {
		x, rest, err := Take(s)
		y, more, f := plainTake(s)
		if x != y || rest != more || err != f {
			t.Fatalf("Take of %x: %+v, %x, %d, want %+v, %x, %d", s, x, rest, err, y, more, f)
		}
		if err == api.OK && (!Right(x) || Put("", x)+rest != s) {
			t.Fatalf("Take of %x: %+v, which is put as %x", s, x, Put("", x))
		}
	}
}

func TestPutAndTaken(t *testing.T) { // P7.6: what is right, whatever follows
	for _, x := range rights() {
		b := Put("", x)
		for _, tail := range append(tails, b) {
			y, rest, err := Take(b + tail)
			if y != x || rest != tail || err != api.OK {
				t.Fatalf("Take of %+v with %x behind: %+v, %x, %d", x, tail, y, rest, err)
			}
		}
	}
}

func TestBeginningsAreNotTaken(t *testing.T) { // P7.4
	l := rights()
	for k := 0; k < len(l); k += 7 {
		b := Put("", l[k])
		for n := range len(b) {
			untaken(t, b[:n], api.ErrShort)
		}
	}
}

func TestText(t *testing.T) { // P7.5
	long := strings.Repeat("x", 300)
	for _, c := range []struct {
		x    api.Entry
		want string
	}{
		{api.Entry{Dot: at(1, 2), Path: "a/b", Kind: api.FieldReg, Val: number(5)}, "1.2 a/b=5@0.0"}, // the chapter's example
		{api.Entry{Dot: at(2, 7), Path: "tags", Kind: api.FieldSet, Val: text("a b"), Ver: at(3, 1)}, "2.7 tags+'a b@3.1"},
		{api.Entry{Dot: at(0, 1), Path: "n", Kind: api.FieldCtr, Val: number(-5), Ver: at(63, 1<<30)}, "0.1 n#-5@63.1073741824"},
		{api.Entry{Dot: at(0, 1), Path: "done", Kind: api.FieldReg, Val: api.Value{Kind: api.ValBool, Int: 1}}, "0.1 done=yes@0.0"},
		{api.Entry{}, "0.0 ?-@0.0"}, // what is not right is told, too
		{api.Entry{Dot: at(-1, -2), Path: "A b@", Kind: 4, Val: text(long), Ver: at(64, math.MinInt)}, "-1.-2 A b@?'" + long + "@64.-9223372036854775808"},
		{api.Entry{Path: long, Kind: 5, Val: api.Value{Kind: 4}}, "0.0 " + long + "=-@0.0"},
		{api.Entry{Kind: 6}, "0.0 +-@0.0"},
		{api.Entry{Kind: 7, Val: api.Value{Kind: api.ValBool}}, "0.0 #no@0.0"},
		{api.Entry{Kind: 8}, "0.0 ?-@0.0"},
		{api.Entry{Kind: -1}, "0.0 #-@0.0"},
		{api.Entry{Kind: -2}, "0.0 +-@0.0"},
		{api.Entry{Kind: -3}, "0.0 =-@0.0"},
		{api.Entry{Kind: -4}, "0.0 ?-@0.0"},
		{api.Entry{Kind: math.MinInt}, "0.0 ?-@0.0"},
		{api.Entry{Kind: math.MaxInt}, "0.0 #-@0.0"},
	} {
		if got := Text(c.x); got != c.want {
			t.Errorf("Text of %+v: %q, want %q", c.x, got, c.want)
		}
	}
	for _, x := range slices.Concat(rights(), wrongs(), drawn(rand.New(rand.NewSource(5)), 5000)) {
		mark := "?=+#"[(x.Kind%4+4)%4]
		want := fmt.Sprintf("%d.%d %s%c%s@%d.%d", x.Dot.Rep, x.Dot.Seq, x.Path, mark, val.Text(x.Val), x.Ver.Rep, x.Ver.Seq)
		if got := Text(x); got != want {
			t.Errorf("Text of %+v: %q, want %q", x, got, want)
		}
	}
}

func TestTheSameIsToldAgain(t *testing.T) { // R4
	tell := func() string {
		var b strings.Builder
		l := append(wrongs(), drawn(rand.New(rand.NewSource(6)), 500)...)
		for k, x := range l {
			y, rest, err := Take(Put("", x) + "rest")
			fmt.Fprintln(&b, Right(x), Put("b", x), y, rest, err, Cmp(x, l[len(l)-1-k]), Text(x))
		}
		return b.String()
	}
	if tell() != tell() {
		t.Error("not the same")
	}
}
