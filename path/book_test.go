package path

import (
	"fmt"
	"slices"
	"strings"
	"testing"

	"strongbox/api"
)

// What the chapter says of paths and trees, byte by byte, in the plainest way.

// mayAsTold goes over a text's bytes and counts those of each step.
func mayAsTold(p string) bool {
	if len(p) < 1 || len(p) > 96 {
		return false
	}
	n, dots := 0, 0
	for i := 0; i <= len(p); i++ {
		if i == len(p) || p[i] == 0x2f {
			if n < 1 || n > 32 || n == dots && n <= 2 {
				return false
			}
			n, dots = 0, 0
			continue
		}
		if p[i] < 33 || p[i] > 126 {
			return false
		}
		n++
		if p[i] == 0x2e {
			dots++
		}
	}
	return true
}

// stepsAsTold are what stands between the / of a text.
func stepsAsTold(p string) []string {
	if len(p) == 0 {
		return nil
	}
	steps := []string{""}
	for i := range len(p) {
		if p[i] == 0x2f {
			steps = append(steps, "")
		} else {
			steps[len(steps)-1] += p[i : i+1]
		}
	}
	return steps
}

// aboveAsTold is what stands ahead of the last / of a text.
func aboveAsTold(p string) (string, bool) {
	for i := len(p) - 1; i >= 0; i-- {
		if p[i] == 0x2f {
			return p[:i], true
		}
	}
	return "", false
}

// less holds texts against each other byte by byte.
func less(a, b string) bool {
	for i := 0; i < len(a) && i < len(b); i++ {
		if a[i] != b[i] {
			return a[i] < b[i]
		}
	}
	return len(a) < len(b)
}

// treeAsTold holds each one of a list against all the others.
func treeAsTold(l []api.File) bool {
	if len(l) > 256 {
		return false
	}
	for i, f := range l {
		if !mayAsTold(f.Path) || f.Dir && len(f.Data) != 0 || !f.Dir && len(f.Data) > 16384 {
			return false
		}
		for _, ahead := range l[:i] {
			if !less(ahead.Path, f.Path) {
				return false
			}
		}
		above, has := aboveAsTold(f.Path)
		if has && !slices.ContainsFunc(l, func(d api.File) bool { return d.Dir && d.Path == above }) {
			return false
		}
	}
	return true
}

// sameAsTold holds two lists against each other, field by field.
func sameAsTold(a, b []api.File) bool {
	if len(a) != len(b) {
		return false
	}
	for i := range a {
		if a[i].Path != b[i].Path || a[i].Dir != b[i].Dir || a[i].Data != b[i].Data {
			return false
		}
	}
	return true
}

// kidsAsTold are the places of those whose path above is a directory's, or of those that have none.
func kidsAsTold(l []api.File, dir string) []int {
	var kids []int
	for i, f := range l {
		above, has := aboveAsTold(f.Path)
		if dir == "" && !has || dir != "" && has && above == dir {
			kids = append(kids, i)
		}
	}
	return kids
}

// sizeAsTold counts all data byte by byte.
func sizeAsTold(l []api.File) int {
	n := 0
	for _, f := range l {
		for range len(f.Data) {
			n++
		}
	}
	return n
}

// path holds May, Steps and Above of a text against the chapter's words.
func path(t *testing.T, p string) {
	t.Helper()
	if got, want := May(p), mayAsTold(p); got != want {
		t.Errorf("May of %s: %v", brief(p), got)
	}
	if got, want := Steps(p), stepsAsTold(p); !slices.Equal(got, want) {
		t.Errorf("Steps of %s: %q, not %q", brief(p), got, want)
	}
	above, has := Above(p)
	if want, wanted := aboveAsTold(p); above != want || has != wanted {
		t.Errorf("Above of %s: %q, %v", brief(p), above, has)
	}
}

// may and mayNot hold a text against the chapter's words, and against what the test says of it.
func may(t *testing.T, p string) {
	t.Helper()
	path(t, p)
	if !May(p) {
		t.Errorf("%s is a path", brief(p))
	}
}

func mayNot(t *testing.T, p string) {
	t.Helper()
	path(t, p)
	if May(p) {
		t.Errorf("%s is no path", brief(p))
	}
}

// list holds Tree, Size, Same with itself and Kids of a list against the chapter's words.
func list(t *testing.T, l []api.File) {
	t.Helper()
	if got, want := Tree(l), treeAsTold(l); got != want {
		t.Errorf("Tree of %s: %v", shown(l), got)
	}
	if got, want := Size(l), sizeAsTold(l); got != want {
		t.Errorf("Size of %s: %d, not %d", shown(l), got, want)
	}
	if !Same(l, slices.Clone(l)) {
		t.Errorf("%s is not the same as itself", shown(l))
	}
	dirs := []string{"", "/", "a", "a/b", "none", "a/"}
	for _, f := range l {
		above, _ := aboveAsTold(f.Path)
		dirs = append(dirs, f.Path, above)
	}
	slices.Sort(dirs)
	for _, dir := range slices.Compact(dirs) {
		if got, want := Kids(l, dir), kidsAsTold(l, dir); !slices.Equal(got, want) {
			t.Errorf("Kids of %s in %s: %v, not %v", brief(dir), shown(l), got, want)
		}
	}
}

// tree and noTree hold a list against the chapter's words, and against what the test says of it.
func tree(t *testing.T, l ...api.File) {
	t.Helper()
	list(t, l)
	if !Tree(l) {
		t.Errorf("%s is a tree", shown(l))
	}
}

func noTree(t *testing.T, l ...api.File) {
	t.Helper()
	list(t, l)
	if Tree(l) {
		t.Errorf("%s is no tree", shown(l))
	}
}

// brief is a text as far as a message needs it.
func brief(text string) string {
	if len(text) > 120 {
		return fmt.Sprintf("%.20q.. (%d bytes)", text, len(text))
	}
	return fmt.Sprintf("%q", text)
}

// shown is a list as far as a message needs it.
func shown(l []api.File) string {
	var b strings.Builder
	fmt.Fprintf(&b, "%d:", len(l))
	for _, f := range l[:min(len(l), 12)] {
		kind := "file"
		if f.Dir {
			kind = "directory"
		}
		fmt.Fprintf(&b, " %s (%s, %d bytes)", brief(f.Path), kind, len(f.Data))
	}
	return b.String()
}
