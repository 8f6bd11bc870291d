// Package sha is layer 1: digests; see shared/doc/01-sha.md.
package sha

import "strongbox/api"

// Hash is a digest of what is added.
type Hash struct {
	numbers [8]uint32
	rest    []byte // what was added behind the last whole block; never written to again
	size    int
}

// Sum is the digest of bytes.
func Sum(s string) string {
	h := New()
	h.Add(s)
	return h.Sum()
}

// New is a hash of no bytes.
func New() *Hash { return &Hash{numbers: squareRoots} }

// Add adds bytes.
func (h *Hash) Add(s string) api.Errno {
	if h == nil {
		return api.ErrNil
	}
	h.numbers, h.rest = feed(h.numbers, h.rest, s)
	h.size += len(s)
	return api.OK
}

// Sum is the digest of all that was added.
func (h *Hash) Sum() string {
	if h == nil {
		return New().Sum()
	}
	// The ending goes into a copy of the numbers: more may be added to the hash itself.
	numbers, _ := feed(h.numbers, h.rest, ending(h.size))
	return tell(numbers)
}

// Len is how many bytes were added.
func (h *Hash) Len() int {
	if h == nil {
		return 0
	}
	return h.size
}

// Copy goes its own way.
func (h *Hash) Copy() *Hash {
	if h == nil {
		return nil
	}
	rest := make([]byte, len(h.rest))
	copy(rest, h.rest)
	return &Hash{numbers: h.numbers, rest: rest, size: h.size}
}
