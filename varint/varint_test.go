package varint

import (
	"fmt"
	"math"
	"math/big"
	"math/rand"
	"strings"
	"testing"

	"lorgnette/api"
)

// numbers: all small ones, those around each power of two, and some of all lengths.
func numbers() []uint64 {
	var l []uint64
	for n := range uint64(1 << 15) {
		l = append(l, n)
	}
	for k := range 64 {
		p := uint64(1) << k
		l = append(l, p-1, p, p+1, -p, -p-1)
	}
	r := rand.New(rand.NewSource(1))
	for range 5000 {
		l = append(l, r.Uint64()>>r.Intn(64))
	}
	return l
}

// ints: small ones of either sign, and those at the ends and around each power of two.
func ints() []int {
	l := []int{math.MinInt, math.MinInt + 1, math.MaxInt - 1, math.MaxInt}
	for n := -9000; n <= 9000; n++ {
		l = append(l, n)
	}
	for k := range 63 {
		p := 1 << k
		l = append(l, p-1, p, -p, -p-1)
	}
	return l
}

// tails: what may follow something that is put; the last ones look like parts of numbers.
var tails = []string{"", "a", "\x00", "\x01", "\x7f", "\x80", "\xff\xff\xff\xff\xff\xff\xff\xff\xff\xff\xff"}

// plainPut tells P1.1 by division, without bits.
func plainPut(n uint64) string {
	var b strings.Builder
	for {
		if n/128 == 0 {
			b.WriteByte(byte(n))
			return b.String()
		}
		b.WriteByte(byte(n%128) + 128)
		n /= 128
	}
}

// plainTake tells P1.2 by numbers of any size.
func plainTake(s string) (uint64, string, api.Errno) {
	sum, unit := big.NewInt(0), big.NewInt(1)
	for k, c := range []byte(s) {
		if k == 9 && c > 1 {
			return 0, "", api.ErrLong
		}
		if k > 0 && c == 0 {
			return 0, "", api.ErrForm
		}
		sum.Add(sum, new(big.Int).Mul(unit, big.NewInt(int64(c%128))))
		unit.Mul(unit, big.NewInt(128))
		if c < 128 {
			return sum.Uint64(), s[k+1:], api.OK
		}
	}
	return 0, "", api.ErrShort
}

// plainZig tells P1.3 by numbers of any size.
func plainZig(n int) uint64 {
	b := big.NewInt(int64(n))
	if n >= 0 {
		return b.Mul(b, big.NewInt(2)).Uint64()
	}
	b.Neg(b)
	b.Mul(b, big.NewInt(2))
	return b.Sub(b, big.NewInt(1)).Uint64()
}

func TestPut(t *testing.T) { // P1.1
	for _, c := range []struct {
		n    uint64
		want string
	}{
		{0, "\x00"},
		{1, "\x01"},
		{127, "\x7f"},
		{128, "\x80\x01"},
		{255, "\xff\x01"},
		{300, "\xac\x02"},
		{16383, "\xff\x7f"},
		{16384, "\x80\x80\x01"},
		{1<<63 - 1, "\xff\xff\xff\xff\xff\xff\xff\xff\x7f"},
		{1 << 63, "\x80\x80\x80\x80\x80\x80\x80\x80\x80\x01"},
		{math.MaxUint64, "\xff\xff\xff\xff\xff\xff\xff\xff\xff\x01"},
	} {
		if got := Put("", c.n); got != c.want {
			t.Errorf("Put of %d: %x, want %x", c.n, got, c.want)
		}
	}
	for _, n := range numbers() {
		if got, want := Put("\x80b", n), "\x80b"+plainPut(n); got != want {
			t.Fatalf("Put behind 80 62 of %d: %x, want %x", n, got, want)
		}
	}
}

func TestTake(t *testing.T) { // P1.2
	nine := strings.Repeat("\x80", 9)
	for _, c := range []struct {
		s    string
		n    uint64
		rest string
		err  api.Errno
	}{
		{"", 0, "", api.ErrShort},
		{"\x00", 0, "", api.OK},
		{"\x00\x00", 0, "\x00", api.OK},
		{"\x7f\x80", 127, "\x80", api.OK},
		{"\xac\x02", 300, "", api.OK},
		{"\xac\x02rest", 300, "rest", api.OK},
		{"\x80", 0, "", api.ErrShort},
		{"\xff\xff", 0, "", api.ErrShort},
		{"\x80\x00", 0, "", api.ErrForm},
		{"\xff\x80\x00abc", 0, "", api.ErrForm},
		{"\x80\x80\x01", 16384, "", api.OK},
		{nine, 0, "", api.ErrShort},
		{nine + "\x00", 0, "", api.ErrForm},
		{nine + "\x01", 1 << 63, "", api.OK},
		{nine + "\x01\x02", 1 << 63, "\x02", api.OK},
		{nine + "\x02", 0, "", api.ErrLong},
		{nine + "\x7f", 0, "", api.ErrLong},
		{nine + "\x80", 0, "", api.ErrLong},
		{nine + "\x81\x00", 0, "", api.ErrLong},
		{nine + "\xff", 0, "", api.ErrLong},
		{strings.Repeat("\xff", 9), 0, "", api.ErrShort},
		{strings.Repeat("\xff", 9) + "\x01", math.MaxUint64, "", api.OK},
		{strings.Repeat("\xff", 1000), 0, "", api.ErrLong},
		{strings.Repeat("\x80", 8) + "\x00\x02", 0, "", api.ErrForm},
	} {
		n, rest, err := Take(c.s)
		if n != c.n || rest != c.rest || err != c.err {
			t.Errorf("Take of %x: %d, %x, %d, want %d, %x, %d", c.s, n, rest, err, c.n, c.rest, c.err)
		}
	}
}

// texts: all of up to two bytes; of all lengths up to twelve some of many high bytes, and of any.
func texts() []string {
	l := []string{""}
	for a := range 256 {
		l = append(l, string([]byte{byte(a)}))
		for b := range 256 {
			l = append(l, string([]byte{byte(a), byte(b)}))
		}
	}
	for a := range 256 {
		for b := range 256 {
			l = append(l, "\x85\xff\x80\x80\x93\x80\x80\x80"+string([]byte{byte(a), byte(b)})+"\x01")
		}
	}
	r := rand.New(rand.NewSource(2))
	for range 50000 {
		b := make([]byte, r.Intn(13))
		for k := range b {
			b[k] = byte(r.Intn(256))
			if r.Intn(8) > 0 {
				b[k] |= 128
			}
		}
		l = append(l, string(b))
	}
	return l
}

func TestTakeOfAnyBytes(t *testing.T) { // P1.2, P1.7 (what is taken is put as just these bytes)
	for _, s := range texts() {
		n, rest, err := Take(s)
		m, more, e := plainTake(s)
		if n != m || rest != more || err != e {
			t.Fatalf("Take of %x: %d, %x, %d, want %d, %x, %d", s, n, rest, err, m, more, e)
		}
		if err == api.OK && Put("", n)+rest != s {
			t.Fatalf("Take of %x: %d, which is put as %x", s, n, Put("", n))
		}
	}
}

func TestZigZag(t *testing.T) { // P1.3
	for _, c := range []struct {
		n int
		u uint64
	}{
		{0, 0}, {-1, 1}, {1, 2}, {-2, 3}, {2, 4}, {-5, 9}, {5, 10},
		{math.MaxInt, math.MaxUint64 - 1},
		{math.MinInt, math.MaxUint64},
	} {
		if got := Zig(c.n); got != c.u {
			t.Errorf("Zig of %d: %d, want %d", c.n, got, c.u)
		}
		if got := Zag(c.u); got != c.n {
			t.Errorf("Zag of %d: %d, want %d", c.u, got, c.n)
		}
	}
	for _, n := range ints() {
		if got, want := Zig(n), plainZig(n); got != want {
			t.Fatalf("Zig of %d: %d, want %d", n, got, want)
		}
		if got := Zag(Zig(n)); got != n {
			t.Fatalf("Zag of Zig of %d: %d", n, got)
		}
	}
	for _, u := range numbers() {
		if got := Zig(Zag(u)); got != u {
			t.Fatalf("Zig of Zag of %d: %d", u, got)
		}
	}
}

func TestInt(t *testing.T) { // P1.4, P1.7
	for _, n := range ints() {
		want := "b" + plainPut(plainZig(n))
		if got := Int("b", n); got != want {
			t.Fatalf("Int behind b of %d: %x, want %x", n, got, want)
		}
	}
	for _, n := range ints() {
		for _, tail := range tails {
			m, rest, err := TakeInt(Int("", n) + tail)
			if m != n || rest != tail || err != api.OK {
				t.Fatalf("TakeInt of %d with %x behind: %d, %x, %d", n, tail, m, rest, err)
			}
		}
	}
}

func TestTakeIntOfAnyBytes(t *testing.T) { // P1.4, P1.7
	for _, s := range texts() {
		n, rest, err := TakeInt(s)
		_, more, e := plainTake(s)
		if rest != more || err != e {
			t.Fatalf("TakeInt of %x: %x, %d, want %x, %d", s, rest, err, more, e)
		}
		if err != api.OK && n != 0 {
			t.Fatalf("TakeInt of %x: %d beside the error %d", s, n, err)
		}
		if err == api.OK && Int("", n)+rest != s {
			t.Fatalf("TakeInt of %x: %d, which is put as %x", s, n, Int("", n))
		}
	}
}

func TestText(t *testing.T) { // P1.5
	long := strings.Repeat("x", 300)
	for _, c := range []struct{ b, s, want string }{
		{"", "", "\x00"},
		{"b", "", "b\x00"},
		{"b", "a", "b\x01a"},
		{"", "\x00\xff", "\x02\x00\xff"},
		{"", long[:127], "\x7f" + long[:127]},
		{"", long[:128], "\x80\x01" + long[:128]},
		{"\xff", long, "\xff\xac\x02" + long},
	} {
		if got := Text(c.b, c.s); got != c.want {
			t.Errorf("Text behind %x of %x: %x, want %x", c.b, c.s, got, c.want)
		}
	}
}

func TestTakeText(t *testing.T) { // P1.6
	nine := strings.Repeat("\x80", 9)
	for _, c := range []struct {
		s    string
		most int
		text string
		rest string
		err  api.Errno
	}{
		{"", 9, "", "", api.ErrShort},
		{"", -1, "", "", api.ErrShort},
		{"\x80", -1, "", "", api.ErrShort},
		{"\x80\x00", 0, "", "", api.ErrForm},
		{nine + "\x02", 9, "", "", api.ErrLong},
		{"\x00", 0, "", "", api.OK},
		{"\x00ab", 0, "", "ab", api.OK},
		{"\x00", -1, "", "", api.ErrLong},
		{"\x00", math.MinInt, "", "", api.ErrLong},
		{"\x01", -1, "", "", api.ErrLong},
		{"\x02ab", 2, "ab", "", api.OK},
		{"\x02abc", 2, "ab", "c", api.OK},
		{"\x02ab", 1, "", "", api.ErrLong},
		{"\x02a", 1, "", "", api.ErrLong},
		{"\x02a", 2, "", "", api.ErrShort},
		{"\x02", 2, "", "", api.ErrShort},
		{"\x05ab", 9, "", "", api.ErrShort},
		{"\x02ab", math.MaxInt, "ab", "", api.OK},
		{nine + "\x01", math.MaxInt, "", "", api.ErrLong},
		{strings.Repeat("\xff", 9) + "\x01a", math.MaxInt, "", "", api.ErrLong},
		{strings.Repeat("\xff", 8) + "\x7fa", math.MaxInt, "", "", api.ErrShort},
		{strings.Repeat("\xff", 8) + "\x7fa", math.MaxInt - 1, "", "", api.ErrLong},
	} {
		text, rest, err := TakeText(c.s, c.most)
		if text != c.text || rest != c.rest || err != c.err {
			t.Errorf("TakeText of %x, at most %d: %x, %x, %d, want %x, %x, %d", c.s, c.most, text, rest, err, c.text, c.rest, c.err)
		}
	}
}

func TestTextsPutAndTaken(t *testing.T) { // P1.7
	for _, n := range []int{0, 1, 2, 126, 127, 128, 129, 300, 16383, 16384, 70000} {
		s := strings.Repeat("\x80x\x00", n)[:n]
		for _, tail := range tails {
			text, rest, err := TakeText(Text("", s)+tail, n)
			if text != s || rest != tail || err != api.OK {
				t.Fatalf("TakeText of %d bytes with %x behind: %d bytes, %x, %d", n, tail, len(text), rest, err)
			}
		}
		if _, _, err := TakeText(Text("", s), n-1); err != api.ErrLong {
			t.Fatalf("TakeText of %d bytes, at most one less: %d", n, err)
		}
		all := Text("", s)
		if text, rest, err := TakeText(all[:len(all)-1], n); text != "" || rest != "" || err != api.ErrShort {
			t.Fatalf("TakeText of %d bytes without the last one: %d bytes, %x, %d", n, len(text), rest, err)
		}
	}
}

func TestTakeTextOfAnyBytes(t *testing.T) { // P1.6, P1.7
	for _, s := range texts() {
		for _, most := range []int{-1, 0, 1, 7, math.MaxInt} {
			text, rest, err := TakeText(s, most)
			if err != api.OK && text+rest != "" {
				t.Fatalf("TakeText of %x: %x, %x beside the error %d", s, text, rest, err)
			}
			if err == api.OK && (len(text) > most || Text("", text)+rest != s) {
				t.Fatalf("TakeText of %x, at most %d: %x, %x", s, most, text, rest)
			}
		}
	}
}

func TestNumbersPutAndTaken(t *testing.T) { // P1.7
	for _, n := range numbers() {
		for _, tail := range tails {
			m, rest, err := Take(Put("", n) + tail)
			if m != n || rest != tail || err != api.OK {
				t.Fatalf("Take of %d with %x behind: %d, %x, %d", n, tail, m, rest, err)
			}
		}
	}
}

func TestHowManyBytes(t *testing.T) { // P1.8
	ends := numbers()
	for k := 1; k <= 9; k++ {
		p := uint64(1) << (7 * k)
		ends = append(ends, p-1, p, p+1)
	}
	for _, n := range ends {
		has := len(Put("", n))
		if has < 1 || has > 10 {
			t.Fatalf("%d has %d bytes", n, has)
		}
		for k := 1; k <= 9; k++ {
			below := n < uint64(1)<<(7*k)
			if below != (has <= k) {
				t.Fatalf("%d has %d bytes; below 128 to the power %d: %t", n, has, k, below)
			}
		}
	}
}

func TestNothingIsChangedBehindATake(t *testing.T) { // R3, R4: the same bytes tell the same again
	s := Text(Int(Put("", 300), -5), "ab") + "rest"
	tell := func() string {
		n, a, e := Take(s)
		m, b, f := TakeInt(a)
		x, c, g := TakeText(b, 2)
		return fmt.Sprintf("%d %d %s %s %d %d %d", n, m, x, c, e, f, g)
	}
	if got, again, want := tell(), tell(), "300 -5 ab rest 0 0 0"; got != want || again != want {
		t.Errorf("%s, then %s, want %s", got, again, want)
	}
}
