package node

import (
	"fmt"
	"strings"
	"testing"

	"strongbox/api"
)

// What the chapter says of entries and of a directory's bytes, byte by byte, in the plainest way.

// nameAsTold says whether a name is one step.
func nameAsTold(name string) bool {
	if len(name) < 1 || len(name) > 32 || name == "." || name == ".." {
		return false
	}
	for i := range len(name) {
		if name[i] < 33 || name[i] > 126 || name[i] == 0x2f {
			return false
		}
	}
	return true
}

// entryAsTold says whether an entry may be.
func entryAsTold(e Entry) bool {
	if !nameAsTold(e.Name) {
		return false
	}
	for i := range e.Chunks {
		if len(e.Chunks[i]) != 32 {
			return false
		}
	}
	if e.Dir && (e.Size != 0 || len(e.Chunks) != 1) {
		return false
	}
	if !e.Dir && (e.Size < 0 || e.Size > 16384 || len(e.Chunks) > e.Size || e.Size > 1024*len(e.Chunks)) {
		return false
	}
	return true
}

// less holds names against each other byte by byte.
func less(a, b string) bool {
	for i := 0; i < len(a) && i < len(b); i++ {
		if a[i] != b[i] {
			return a[i] < b[i]
		}
	}
	return len(a) < len(b)
}

// mayAsTold holds each entry against all those ahead of it.
func mayAsTold(l []Entry) bool {
	if len(l) > 256 {
		return false
	}
	for i, e := range l {
		if !entryAsTold(e) {
			return false
		}
		for _, ahead := range l[:i] {
			if !less(ahead.Name, e.Name) {
				return false
			}
		}
	}
	return true
}

// bytesAsTold are a directory's bytes, and such of entries that may not be one: numbers that have no room lose their highest bytes.
func bytesAsTold(l []Entry) string {
	s := "dir1" + string([]byte{byte(len(l) / 256), byte(len(l) % 256)})
	for _, e := range l {
		kind := byte(0)
		if e.Dir {
			kind = 1
		}
		s += string([]byte{kind, byte(len(e.Name))}) + e.Name
		s += string([]byte{byte(e.Size >> 24), byte(e.Size >> 16), byte(e.Size >> 8), byte(e.Size)})
		s += string([]byte{byte(len(e.Chunks) / 256), byte(len(e.Chunks) % 256)})
		s += strings.Join(e.Chunks, "")
	}
	return s
}

// readAsTold goes over bytes by a place that moves on, and says whether they are a directory's.
func readAsTold(s string) ([]Entry, bool) {
	if len(s) > 16384 || len(s) < 6 || s[:4] != "dir1" {
		return nil, false
	}
	n, at := int(s[4])*256+int(s[5]), 6
	var l []Entry
	for range n {
		if len(s)-at < 2 || s[at] > 1 {
			return nil, false
		}
		e := Entry{Dir: s[at] == 1}
		name := int(s[at+1])
		at += 2
		if len(s)-at < name+6 {
			return nil, false
		}
		e.Name = s[at : at+name]
		at += name
		e.Size = int(s[at])<<24 + int(s[at+1])<<16 + int(s[at+2])<<8 + int(s[at+3])
		chunks := int(s[at+4])*256 + int(s[at+5])
		at += 6
		if len(s)-at < 32*chunks {
			return nil, false
		}
		for range chunks {
			e.Chunks = append(e.Chunks, s[at:at+32])
			at += 32
		}
		l = append(l, e)
	}
	return l, at == len(s) && mayAsTold(l)
}

// sameAsTold holds two lists against each other, field by field.
func sameAsTold(a, b []Entry) bool {
	if len(a) != len(b) {
		return false
	}
	for i := range a {
		if a[i].Name != b[i].Name || a[i].Dir != b[i].Dir || a[i].Size != b[i].Size || len(a[i].Chunks) != len(b[i].Chunks) {
			return false
		}
		for j := range a[i].Chunks {
			if a[i].Chunks[j] != b[i].Chunks[j] {
				return false
			}
		}
	}
	return true
}

// brief is a text as a message shows it.
func brief(text string) string {
	if len(text) > 60 {
		return fmt.Sprintf("%q.. (%d bytes)", text[:60], len(text))
	}
	return fmt.Sprintf("%q", text)
}

// shown are entries as a message shows them.
func shown(l []Entry) string {
	var parts []string
	for i, e := range l {
		if i == 8 {
			parts = append(parts, "..")
			break
		}
		parts = append(parts, fmt.Sprintf("%s (%v, %d, %d chunks)", brief(e.Name), e.Dir, e.Size, len(e.Chunks)))
	}
	return fmt.Sprintf("%d entries: %s", len(l), strings.Join(parts, ", "))
}

// may holds all calls of entries that may be a directory against the chapter's words, and against what the test says of them.
func may(t *testing.T, l ...Entry) {
	t.Helper()
	want := bytesAsTold(l)
	if !May(l) || !mayAsTold(l) {
		t.Errorf("these may be a directory: %s", shown(l))
	}
	s, e := Make(l)
	if len(want) > 16384 {
		if s != "" || e != api.ErrTooLarge {
			t.Errorf("Make of %s: %s, %v", shown(l), brief(s), e)
		}
	} else if s != want || e != api.OK {
		t.Errorf("Make of %s: %s, %v", shown(l), brief(s), e)
	}
	read(t, want)
}

// mayNot holds all calls of entries that may not be a directory against the chapter's words, and against what the test says of them.
func mayNot(t *testing.T, l ...Entry) {
	t.Helper()
	if May(l) || mayAsTold(l) {
		t.Errorf("these may not be a directory: %s", shown(l))
	}
	if s, e := Make(l); s != "" || e != api.ErrForm {
		t.Errorf("Make of %s: %s, %v", shown(l), brief(s), e)
	}
	read(t, bytesAsTold(l))
}

// list holds all calls of any entries against the chapter's words.
func list(t *testing.T, l ...Entry) {
	t.Helper()
	if mayAsTold(l) {
		may(t, l...)
	} else {
		mayNot(t, l...)
	}
}

// read holds Read of any bytes against the chapter's words.
func read(t *testing.T, s string) {
	t.Helper()
	want, is := readAsTold(s)
	if !is {
		readNot(t, s)
		return
	}
	l, e := Read(s)
	if e != api.OK || !sameAsTold(l, want) {
		t.Errorf("Read of %s: %s, %v", brief(s), shown(l), e)
	}
	if again, e := Make(l); again != s || e != api.OK {
		t.Errorf("Make of Read of %s: %s, %v", brief(s), brief(again), e)
	}
}

// readNot holds Read of what is no directory's bytes against what the test says of it.
func readNot(t *testing.T, s string) {
	t.Helper()
	if l, e := Read(s); len(l) != 0 || e != api.ErrForm {
		t.Errorf("Read of %s: %s, %v", brief(s), shown(l), e)
	}
	if _, is := readAsTold(s); is {
		t.Errorf("a directory's bytes: %s", brief(s))
	}
}
