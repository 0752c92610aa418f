// Package source has bytes that parts are taken of, one behind the other, up to the first error. It stands below the layers that take what has several parts.
package source

import (
	"lorgnette/api"
	"lorgnette/varint"
)

// MostPath is how many bytes are taken of a path: of as many segments as it may have, each with a stroke.
const MostPath = api.MaxSegs * (api.MaxSeg + 1)

// Source is what is not yet taken, and the first error, behind which nothing is taken any more.
type Source struct {
	Rest string
	Err  api.Errno
}

// Next is the part that comes next in s, as take takes it; nothing behind an error.
func Next[part any](s *Source, take func(string) (part, string, api.Errno)) part {
	var one part
	if s.Err == api.OK {
		one, s.Rest, s.Err = take(s.Rest)
	}
	return one
}

// Number is the number that comes next in s; of one above most that error.
func (s *Source) Number(most uint64, above api.Errno) uint64 {
	n := Next(s, varint.Take)
	if n > most {
		s.Rest, s.Err = "", above
		return 0
	}
	return n
}

// Text is the text of at most that many bytes that comes next in s.
func (s *Source) Text(most int) string {
	return Next(s, func(b string) (string, string, api.Errno) { return varint.TakeText(b, most) })
}
