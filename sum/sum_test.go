package sum

import (
	"fmt"
	"hash/crc32"
	"math/rand"
	"strings"
	"testing"

	"lorgnette/api"
	"lorgnette/varint"
)

// tails: what may follow something that is sealed; some look like parts of it.
var tails = []string{"", "a", "\x00", "\x80", "\x00\x00\x00\x00\x00", "\x01\x43\xbe\xb7\xe8a", "\xff\xff\xff\xff\xff\xff\xff\xff\xff\xff\xff"}

// anyText is that many bytes.
func anyText(r *rand.Rand, n int) string {
	b := make([]byte, n)
	r.Read(b)
	return string(b)
}

// texts: all of one byte, some of two, and some of many lengths, those of one byte alone among them.
func texts() []string {
	l := []string{""}
	for a := range 256 {
		l = append(l, string([]byte{byte(a)}), string([]byte{byte(a), byte(255 - a)}))
	}
	r := rand.New(rand.NewSource(1))
	for n := range 300 {
		l = append(l, anyText(r, n), strings.Repeat("\x00", n), strings.Repeat("\xff", n), strings.Repeat("x", n))
	}
	for _, n := range []int{16383, 16384, 70000} {
		l = append(l, anyText(r, n))
	}
	return l
}

// plainSum tells P2.1 bit by bit, with the register as 32 truths, the lowest one first.
func plainSum(s string) uint32 {
	var reg, turn [32]bool
	for k := range reg {
		reg[k] = true
		turn[k] = 0xedb88320>>k&1 == 1
	}
	for _, c := range []byte(s) {
		for k := range 8 {
			reg[k] = reg[k] != (c>>k&1 == 1)
		}
		for range 8 {
			out := reg[0]
			copy(reg[:], reg[1:])
			reg[31] = false
			for k := range reg {
				reg[k] = reg[k] != (out && turn[k])
			}
		}
	}
	var n uint32
	for k := range reg {
		if !reg[k] {
			n |= 1 << k
		}
	}
	return n
}

// plainSeal tells P2.2 of a text that is not too long.
func plainSeal(s string) string {
	n := crc32.ChecksumIEEE([]byte(s))
	return varint.Put("", uint64(len(s))) + string([]byte{byte(n % 256), byte(n / 256 % 256), byte(n / 65536 % 256), byte(n / 16777216)}) + s
}

// mustSeal seals a text that is not too long.
func mustSeal(t *testing.T, s string) string {
	t.Helper()
	sealed, err := Seal(s)
	if err != api.OK {
		t.Fatalf("Seal of %d bytes: %d", len(s), err)
	}
	return sealed
}

func TestSum(t *testing.T) { // P2.1
	for _, c := range []struct {
		s    string
		want uint32
	}{
		{"", 0},
		{"\x00", 0xd202ef8d},
		{"\xff", 0xff000000},
		{"a", 0xe8b7be43},
		{"abc", 0x352441c2},
		{"123456789", 0xcbf43926},
		{"\x00\x00\x00\x00", 0x2144df1c},
		{"\xff\xff\xff\xff", 0xffffffff},
		{"The quick brown fox jumps over the lazy dog", 0x414fa339},
	} {
		if got := Sum(c.s); got != c.want {
			t.Errorf("Sum of %x: %08x, want %08x", c.s, got, c.want)
		}
	}
	for _, s := range texts() {
		got := Sum(s)
		if want := crc32.ChecksumIEEE([]byte(s)); got != want {
			t.Fatalf("Sum of %d bytes, %.20x: %08x, want %08x", len(s), s, got, want)
		}
		if want := plainSum(s); got != want {
			t.Fatalf("Sum of %d bytes, %.20x: %08x, want %08x by the plain register", len(s), s, got, want)
		}
	}
}

func TestSumOfLongTexts(t *testing.T) { // P2.1: a text that is too long to be sealed has a sum
	s := anyText(rand.New(rand.NewSource(2)), api.MaxPart+1)
	for _, n := range []int{api.MaxPart - 1, api.MaxPart, api.MaxPart + 1} {
		if got, want := Sum(s[:n]), crc32.ChecksumIEEE([]byte(s[:n])); got != want {
			t.Errorf("Sum of %d bytes: %08x, want %08x", n, got, want)
		}
	}
}

func TestSeal(t *testing.T) { // P2.2
	long := strings.Repeat("x", 300)
	for _, c := range []struct{ s, want string }{
		{"", "\x00\x00\x00\x00\x00"},
		{"a", "\x01\x43\xbe\xb7\xe8a"},
		{"\x00", "\x01\x8d\xef\x02\xd2\x00"},
		{"123456789", "\x09\x26\x39\xf4\xcb123456789"},
	} {
		if got, err := Seal(c.s); got != c.want || err != api.OK {
			t.Errorf("Seal of %x: %x, %d, want %x", c.s, got, err, c.want)
		}
	}
	for n, head := range map[int]string{127: "\x7f", 128: "\x80\x01", 300: "\xac\x02"} {
		got, err := Seal(long[:n])
		if !strings.HasPrefix(got, head) || len(got) != len(head)+4+n || err != api.OK {
			t.Errorf("Seal of %d bytes: %d bytes, %.6x, %d", n, len(got), got, err)
		}
	}
	for _, s := range texts() {
		if got, want := mustSeal(t, s), plainSeal(s); got != want {
			t.Fatalf("Seal of %d bytes, %.20x: %.20x, want %.20x", len(s), s, got, want)
		}
	}
}

func TestSealOfLongTexts(t *testing.T) { // P2.2, P2.3, P2.4: up to MaxPart bytes, and not one more
	s := anyText(rand.New(rand.NewSource(3)), 2*api.MaxPart)
	for _, n := range []int{api.MaxPart - 1, api.MaxPart} {
		sealed := mustSeal(t, s[:n])
		if len(sealed) <= n+4 || sealed[len(sealed)-n:] != s[:n] {
			t.Errorf("Seal of %d bytes: %d bytes", n, len(sealed))
		}
		part, rest, err := Open(sealed + "rest")
		if part != s[:n] || rest != "rest" || err != api.OK {
			t.Errorf("Open of %d bytes: %d bytes, %d bytes, %d", n, len(part), len(rest), err)
		}
		part, rest, err = Open(sealed[:len(sealed)-1])
		if part+rest != "" || err != api.ErrShort {
			t.Errorf("Open of %d bytes without the last one: %d bytes, %d bytes, %d", n, len(part), len(rest), err)
		}
	}
	for _, n := range []int{api.MaxPart + 1, 2 * api.MaxPart} {
		if sealed, err := Seal(s[:n]); sealed != "" || err != api.ErrLong {
			t.Errorf("Seal of %d bytes: %d bytes, %d", n, len(sealed), err)
		}
		if part, rest, err := Open(plainSeal(s[:n])); part+rest != "" || err != api.ErrLong {
			t.Errorf("Open of %d bytes: %d bytes, %d bytes, %d", n, len(part), len(rest), err)
		}
	}
}

func TestOpen(t *testing.T) { // P2.3
	nine := strings.Repeat("\x80", 9)
	most, over := varint.Put("", api.MaxPart), varint.Put("", api.MaxPart+1)
	for _, c := range []struct {
		s    string
		part string
		rest string
		err  api.Errno
	}{
		{"", "", "", api.ErrShort},
		{"\x80", "", "", api.ErrShort},
		{"\x80\x00", "", "", api.ErrForm},
		{"\x80\x00\x00\x00\x00\x00", "", "", api.ErrForm},
		{nine + "\x02", "", "", api.ErrLong},
		{over, "", "", api.ErrLong},
		{over + "\x00\x00\x00\x00a", "", "", api.ErrLong},
		{varint.Put("", 1<<32), "", "", api.ErrLong},
		{varint.Put("", 1<<32+1) + "\x43\xbe\xb7\xe8a", "", "", api.ErrLong},
		{nine + "\x01", "", "", api.ErrLong},
		{varint.Put("", 1<<64-1) + "\x00\x00\x00\x00", "", "", api.ErrLong},
		{varint.Put("", 1<<64-4) + "\x00\x00\x00\x00", "", "", api.ErrLong},
		{most, "", "", api.ErrShort},
		{most + "\x00\x00\x00\x00a", "", "", api.ErrShort},
		{"\x00", "", "", api.ErrShort},
		{"\x00\x00\x00\x00", "", "", api.ErrShort},
		{"\x00\x00\x00\x00\x00", "", "", api.OK},
		{"\x00\x00\x00\x00\x00\x00", "", "\x00", api.OK},
		{"\x00\x01\x00\x00\x00", "", "", api.ErrSum},
		{"\x00\x00\x00\x00\x80", "", "", api.ErrSum},
		{"\x01\x43\xbe\xb7\xe8", "", "", api.ErrShort},
		{"\x01\x43\xbe\xb7", "", "", api.ErrShort},
		{"\x01\x00\x00\x00\x00", "", "", api.ErrShort},
		{"\x01\x43\xbe\xb7\xe8a", "a", "", api.OK},
		{"\x01\x43\xbe\xb7\xe8abc", "a", "bc", api.OK},
		{"\x01\x43\xbe\xb7\xe8b", "", "", api.ErrSum},
		{"\x01\xe8\xb7\xbe\x43a", "", "", api.ErrSum},
		{"\x01\x43\xbe\xb7\xe9arest", "", "", api.ErrSum},
		{"\x01\x42\xbe\xb7\xe8a", "", "", api.ErrSum},
		{"\x02\x43\xbe\xb7\xe8a", "", "", api.ErrShort},
		{"\x02\x43\xbe\xb7\xe8ab", "", "", api.ErrSum},
		{"\x00\x43\xbe\xb7\xe8a", "", "", api.ErrSum},
		{"\x09\x26\x39\xf4\xcb123456789", "123456789", "", api.OK},
	} {
		part, rest, err := Open(c.s)
		if part != c.part || rest != c.rest || err != c.err {
			t.Errorf("Open of %x: %x, %x, %d, want %x, %x, %d", c.s, part, rest, err, c.part, c.rest, c.err)
		}
	}
}

func TestOpenOfAnyBytes(t *testing.T) { // P2.3
	r := rand.New(rand.NewSource(4))
	for range 50000 {
		s := anyText(r, r.Intn(12))
		if r.Intn(2) == 0 {
			s = plainSeal(anyText(r, r.Intn(4))) + s
			b := []byte(s)
			b[r.Intn(len(b))] ^= byte(r.Intn(2) << r.Intn(8))
			s = string(b)
		}
		part, rest, err := Open(s)
		if _, _, e := varint.Take(s); e != api.OK && err != e {
			t.Fatalf("Open of %x: %d, but Take tells %d", s, err, e)
		}
		if err != api.OK && part+rest != "" {
			t.Fatalf("Open of %x: %x, %x beside the error %d", s, part, rest, err)
		}
		if err == api.OK && plainSeal(part)+rest != s {
			t.Fatalf("Open of %x: %x, %x, which is sealed as %x", s, part, rest, plainSeal(part))
		}
	}
}

func TestSealedAndOpened(t *testing.T) { // P2.4: whatever follows
	for _, s := range texts() {
		sealed := mustSeal(t, s)
		for _, tail := range append(tails, sealed) {
			part, rest, err := Open(sealed + tail)
			if part != s || rest != tail || err != api.OK {
				t.Fatalf("Open of %d sealed bytes with %.20x behind: %d bytes, %.20x, %d", len(s), tail, len(part), rest, err)
			}
		}
	}
}

func TestBeginningsAreNotOpened(t *testing.T) { // P2.4
	for _, s := range texts() {
		if len(s) > 300 {
			continue
		}
		sealed := mustSeal(t, s)
		for n := range len(sealed) {
			part, rest, err := Open(sealed[:n])
			if part+rest != "" || err != api.ErrShort {
				t.Fatalf("Open of %d of %d bytes: %x, %x, %d", n, len(sealed), part, rest, err)
			}
		}
	}
}

func TestSumsOfThreeTexts(t *testing.T) { // P2.5
	r := rand.New(rand.NewSource(5))
	for n := range 600 {
		a, b, c := anyText(r, n), anyText(r, n), anyText(r, n)
		if n%3 == 0 {
			b = strings.Repeat("\x00", n)
		}
		all := make([]byte, n)
		for k := range all {
			all[k] = a[k] ^ b[k] ^ c[k]
		}
		if got, want := Sum(string(all)), Sum(a)^Sum(b)^Sum(c); got != want {
			t.Fatalf("the sum of three texts of %d bytes: %08x, want %08x", n, got, want)
		}
	}
}

// others: s with up to four bytes side by side, from at on, that are others: each single bit, and some of any bytes.
func others(r *rand.Rand, s string, at int) []string {
	var l []string
	change := func(from int, by ...byte) {
		b := []byte(s)
		for k, c := range by {
			b[from+k] ^= c
		}
		if string(b) != s {
			l = append(l, string(b))
		}
	}
	for k := at; k < len(s); k++ {
		for bit := range 8 {
			change(k, 1<<bit)
		}
		for n := 1; n <= 4 && k+n <= len(s); n++ {
			for range 4 {
				change(k, []byte(anyText(r, n))...)
			}
			change(k, []byte("\xff\xff\xff\xff")[:n]...)
			change(k, []byte("\x20\x83\xb8\xed")[:n]...) // what goes into the register, lowest byte first
			change(k, []byte("\xed\xb8\x83\x20")[:n]...)
		}
	}
	return l
}

func TestOtherTextsHaveOtherSums(t *testing.T) { // P2.6
	r := rand.New(rand.NewSource(6))
	for _, n := range []int{1, 2, 3, 4, 5, 8, 33, 200} {
		for _, s := range []string{anyText(r, n), strings.Repeat("\x00", n), strings.Repeat("\xff", n)} {
			sum := Sum(s)
			for _, other := range others(r, s, 0) {
				if Sum(other) == sum {
					t.Fatalf("%x and %x have the sum %08x", s, other, sum)
				}
			}
		}
	}
	seen := map[uint32]int{}
	for n := range 1 << 16 { // all of two bytes: no two have one sum
		sum := Sum(string([]byte{byte(n), byte(n >> 8)}))
		if m, ok := seen[sum]; ok {
			t.Fatalf("%04x and %04x have the sum %08x", m, n, sum)
		}
		seen[sum] = n
	}
}

func TestOtherBytesAreTold(t *testing.T) { // P2.7
	r := rand.New(rand.NewSource(7))
	for _, n := range []int{1, 2, 3, 4, 5, 40, 127, 128, 200} {
		sealed := mustSeal(t, anyText(r, n))
		for _, other := range others(r, sealed, len(sealed)-n) {
			for _, tail := range []string{"", "\x00rest"} {
				part, rest, err := Open(other + tail)
				if part+rest != "" || err != api.ErrSum {
					t.Fatalf("Open of %x, which was %x: %x, %x, %d", other, sealed, part, rest, err)
				}
			}
		}
	}
}

func TestTheSameIsToldAgain(t *testing.T) { // R3, R4
	tell := func() string {
		a, e := Seal("a")
		part, rest, f := Open(a + "rest")
		return fmt.Sprintf("%x %d %s %s %d %08x", a, e, part, rest, f, Sum("a"))
	}
	if got, again, want := tell(), tell(), "0143beb7e861 0 a rest 0 e8b7be43"; got != want || again != want {
		t.Errorf("%s, then %s, want %s", got, again, want)
	}
}
