package source

import (
	"math"
	"testing"

	"lorgnette/api"
	"lorgnette/varint"
)

func TestPartsAreTakenOneByOne(t *testing.T) {
	s := Source{Rest: "\x05\x02ab\x09\x01c"}
	if n := s.Number(5, api.ErrForm); n != 5 || s != (Source{Rest: "\x02ab\x09\x01c"}) {
		t.Errorf("the first number: %d, %+v", n, s)
	}
	if b := s.Text(2); b != "ab" || s != (Source{Rest: "\x09\x01c"}) {
		t.Errorf("the text behind it: %q, %+v", b, s)
	}
	if n := Next(&s, varint.TakeInt); n != -5 || s != (Source{Rest: "\x01c"}) {
		t.Errorf("the number behind that: %d, %+v", n, s)
	}
}

func TestTheFirstErrorStays(t *testing.T) {
	for _, c := range []struct {
		name string
		take func(s *Source) bool // whether something was taken
		b    string
		err  api.Errno
	}{
		{"no number", func(s *Source) bool { return s.Number(5, api.ErrLong) != 0 }, "", api.ErrShort},
		{"a number in another form", func(s *Source) bool { return s.Number(5, api.ErrLong) != 0 }, "\x81\x00", api.ErrForm},
		{"a number above the most", func(s *Source) bool { return s.Number(5, api.ErrLong) != 0 }, "\x06a", api.ErrLong},
		{"one that no int has", func(s *Source) bool { return s.Number(5, api.ErrForm) != 0 }, varint.Put("", math.MaxUint64) + "a", api.ErrForm},
		{"a text above the most", func(s *Source) bool { return s.Text(2) != "" }, "\x03abc", api.ErrLong},
		{"a text that ends too soon", func(s *Source) bool { return s.Text(2) != "" }, "\x02a", api.ErrShort},
		{"no part", func(s *Source) bool { return Next(s, varint.TakeInt) != 0 }, "\x80", api.ErrShort},
	} {
		s := Source{Rest: c.b}
		if taken := c.take(&s); taken || s != (Source{Err: c.err}) {
			t.Errorf("%s: %t, %+v", c.name, taken, s)
		}
		s.Rest = "\x01a" // it would be taken, if it were not for the error
		if n, b, k := s.Number(5, api.ErrArg), s.Text(2), Next(&s, varint.TakeInt); n != 0 || b != "" || k != 0 || s != (Source{Rest: "\x01a", Err: c.err}) {
			t.Errorf("behind %s: %d, %q, %d, %+v", c.name, n, b, k, s)
		}
	}
}

func TestTheMost(t *testing.T) {
	for _, most := range []uint64{0, 1, 127, 128, math.MaxInt, math.MaxUint64} {
		s := Source{Rest: varint.Put("", most) + "a"}
		if n := s.Number(most, api.ErrForm); n != most || s != (Source{Rest: "a"}) {
			t.Errorf("%d: %d, %+v", most, n, s)
		}
	}
}
