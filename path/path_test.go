package path_test

import (
	gopath "path"
	"slices"
	"strings"
	"testing"

	"messuage/api"
	"messuage/path"
)

// texts: all texts of at most so many of some pieces.
func texts(most int, pieces ...string) []string {
	l := []string{""}
	for from := 0; most > 0; most-- {
		upTo := len(l)
		for _, s := range l[from:upTo] {
			for _, one := range pieces {
				l = append(l, s+one)
			}
		}
		from = upTo
	}
	return l
}

// strange: texts that are long, or have bytes that no path has.
func strange() []string {
	l := []string{"", " ", "\x00", "\x7f", "\x80", "\xff", "\xc3\xa9", "/\xe2\x82\xac", "/a b", "/a\n", "\t/a", "/\xff/", "a\x00/b\x00", "/\u2215a", "\xef\xbc\x8f", "!", "!/", ":", "/!/!/", "\xff!/\xff:\xff"}
	return append(l, strings.Repeat("/", 5000), strings.Repeat("/a", 5000), strings.Repeat("../", 5000), strings.Repeat("a", 70000), strings.Repeat(":", 5000), strings.Repeat("!/", 5000))
}

// split: what stands between the bytes of one kind, found byte by byte.
func split(s string, at byte) []string {
	l := []string{""}
	for i := range len(s) {
		if s[i] == at {
			l = append(l, "")
		} else {
			l[len(l)-1] += s[i : i+1]
		}
	}
	return l
}

// isGood: by the chapter's words.
func isGood(p string) bool {
	for _, b := range []byte(p) {
		if b <= ' ' || b >= 0x7f {
			return false
		}
	}
	return len(p) <= 256
}

func checkClean(t *testing.T, p, want string, wantErr api.Errno) {
	t.Helper()
	if s, e := path.Clean(p); s != want || e != wantErr {
		t.Errorf("Clean(%q): %q, %v, not %q, %v", p, s, e, want, wantErr)
	}
}

func checkJoin(t *testing.T, dir, name, want string, wantErr api.Errno) {
	t.Helper()
	if s, e := path.Join(dir, name); s != want || e != wantErr {
		t.Errorf("Join(%q, %q): %q, %v, not %q, %v", dir, name, s, e, want, wantErr)
	}
}

// P4.1
func TestParts(t *testing.T) {
	cases := []struct {
		p    string
		want []string
	}{
		{"", nil},
		{"/", nil},
		{"///", nil},
		{".", nil},
		{"/./.", nil},
		{"a", []string{"a"}},
		{"/a", []string{"a"}},
		{"a/", []string{"a"}},
		{"/a/./b//../c", []string{"a", "b", "..", "c"}},
		{"..", []string{".."}},
		{"../..", []string{"..", ".."}},
		{"/...//.a/a./", []string{"...", ".a", "a."}},
		{"/a/a", []string{"a", "a"}},
		{"/ /\xff/\x00", []string{" ", "\xff", "\x00"}}, // of any text, not of good paths alone
		{"/" + strings.Repeat("a", 300), []string{strings.Repeat("a", 300)}},
	}
	for _, c := range cases {
		if got := path.Parts(c.p); !slices.Equal(got, c.want) {
			t.Errorf("Parts(%q): %q, not %q", c.p, got, c.want)
		}
	}
	for _, p := range texts(6, "/", ".", "a", "\xff") {
		want := slices.DeleteFunc(split(p, '/'), func(name string) bool { return name == "" || name == "." })
		if got := path.Parts(p); !slices.Equal(got, want) {
			t.Errorf("Parts(%q): %q, not %q", p, got, want)
		}
	}
}

// P4.1
func TestClean(t *testing.T) {
	for p, want := range map[string]string{
		"/a/./b//../c":     "/a/c",
		"/..":              "/",
		"/":                "/",
		"//":               "/",
		"/.":               "/",
		"/./":              "/",
		"/../":             "/",
		"/../..":           "/",
		"/../a":            "/a", // .. takes nothing at the root, and what follows stays
		"/../../a/b":       "/a/b",
		"/a/../..":         "/",
		"/a/../../b":       "/b",
		"/a/b/../..":       "/",
		"/a/b/c/../../d":   "/a/d",
		"/a/b/../c/../d":   "/a/d",
		"/a/":              "/a",
		"//a//b//":         "/a/b",
		"/.../..a/a..":     "/.../..a/a..",
		"/...":             "/...",
		"/.a/a./.":         "/.a/a.",
		"/x.apk!/lib/a.so": "/x.apk!/lib/a.so",
		"/x.apk!/..":       "/",
		"/a:b":             "/a:b",
		"/!~":              "/!~", // the first and the last byte that is plain
	} {
		checkClean(t, p, want, api.OK)
	}
	for _, p := range []string{"", "a", ".", "..", "./a", "../a", "a/b", "a/", "~", "!/a"} {
		checkClean(t, p, "", api.ErrPath)
	}
}

// P4.1: each byte that there is, at the face, amid and at the end.
func TestCleanBytes(t *testing.T) {
	for b := range 256 {
		one := string([]byte{byte(b)})
		for _, p := range []string{one, one + "/a", "/" + one, "/a" + one + "b", "/a/b" + one, "/" + one + "/../c"} {
			if b < 33 || b > 126 || p[0] != '/' {
				checkClean(t, p, "", api.ErrPath)
			} else {
				checkClean(t, p, gopath.Clean(p), api.OK)
			}
		}
	}
	for _, p := range []string{"/\xc3\xa9", "/a\u2026", "/\u00a0", "/\ufffd", "/\xc3"} {
		checkClean(t, p, "", api.ErrPath)
	}
}

// P4.1: paths of MaxPath bytes, and of one more; what would be left of them isn't asked.
func TestCleanLength(t *testing.T) {
	for _, piece := range []string{"a", "/", "/a", "/.", "/..", "a/../", "//b"} {
		long := "/" + strings.Repeat(piece, 300)
		for _, size := range []int{254, 255, 256} {
			checkClean(t, long[:size], gopath.Clean(long[:size]), api.OK)
		}
		for _, size := range []int{257, 258, 512, len(long)} {
			size = min(size, len(long))
			checkClean(t, long[:size], "", api.ErrPath)
		}
	}
	if most := "/" + strings.Repeat("a", api.MaxPath-1); !path.IsClean(most) || path.IsClean(most+"a") {
		t.Error("IsClean at MaxPath")
	}
}

// P4.1: many paths, held against Go's own Clean, which says the same of paths from the root.
func TestCleanManyPaths(t *testing.T) {
	for _, p := range texts(6, "/", ".", "..", "a", "bc", " ") {
		if !isGood(p) || !strings.HasPrefix(p, "/") {
			checkClean(t, p, "", api.ErrPath)
			continue
		}
		checkClean(t, p, gopath.Clean(p), api.OK)
	}
}

// hasCleanForm: is a text a clean path, by the chapter's words?
func hasCleanForm(p string) bool {
	if !isGood(p) || p == "" || p[0] != '/' {
		return false
	}
	return p == "/" || !slices.ContainsFunc(split(p[1:], '/'), func(name string) bool { return name == "" || name == "." || name == ".." })
}

// P4.1
func TestIsClean(t *testing.T) {
	for _, p := range []string{"/", "/a", "/a/b", "/...", "/..a", "/a..", "/.a", "/a.", "/a!/b", "/!", "/~"} {
		if !path.IsClean(p) {
			t.Errorf("IsClean(%q)", p)
		}
	}
	// The empty text stands beside Clean's error, but isn't clean.
	for _, p := range []string{"", "a", "a/b", ".", "..", "//", "/a/", "/.", "/..", "//a", "/a//b", "/a/.", "/a/..", "/./a", "/../a", "/a b", "/a\x7f", "/\xff", " /a", "/a\x00"} {
		if path.IsClean(p) {
			t.Errorf("IsClean(%q)", p)
		}
	}
	for _, p := range append(texts(6, "/", ".", "..", "a", "\xff"), strange()...) {
		if path.IsClean(p) != hasCleanForm(p) {
			t.Errorf("IsClean(%q): %v", p, path.IsClean(p))
		}
	}
}

// P4.2
func TestJoin(t *testing.T) {
	for _, c := range [][3]string{
		{"/a/b", "../c", "/a/c"},
		{"/a", "b", "/a/b"},
		{"/a", "b/c", "/a/b/c"},
		{"/a", "", "/a"},
		{"/a", ".", "/a"},
		{"/a", "..", "/"},
		{"/a", "../..", "/"},
		{"/a/", "./b/", "/a/b"},
		{"/", "a", "/a"},
		{"/", "", "/"},
		{"/", "..", "/"},
		{"/a/../b", "c", "/b/c"},
		{"", "a", "/a"}, // the empty text is good: a / stands behind it
		{"", "", "/"},
		{"", "../a", "/a"},
		{"/a", "!~", "/a/!~"},
	} {
		checkJoin(t, c[0], c[1], c[2], api.OK)
	}
	for _, c := range [][2]string{{"a", "b"}, {"a", ""}, {".", "b"}, {"..", "b"}, {"a/b", "../c"}, {"/a b", "c"}, {"/a", "b c"}, {"/a", "\xff"}, {"\x00", "b"}, {"/a", "b\x7f"}, {"/a ", ""}, {" ", "a"}, {"\x1f", ""}, {"", " "}, {"/\xff", ".."}} {
		checkJoin(t, c[0], c[1], "", api.ErrPath)
	}
}

// P4.2: a name from the root on is cleaned alone, whatever the folder is.
func TestJoinFromTheRoot(t *testing.T) {
	for _, dir := range append(strange(), "/a", "a", "/", "..") {
		checkJoin(t, dir, "/", "/", api.OK)
		checkJoin(t, dir, "/b", "/b", api.OK)
		checkJoin(t, dir, "/b/../c/", "/c", api.OK)
		checkJoin(t, dir, "/"+strings.Repeat("b", 255), "/"+strings.Repeat("b", 255), api.OK)
		checkJoin(t, dir, "/"+strings.Repeat("b", 256), "", api.ErrPath)
		checkJoin(t, dir, "/b c", "", api.ErrPath)
		checkJoin(t, dir, "/\xff", "", api.ErrPath)
	}
}

// P4.2: the folder, a / and the name have MaxPath bytes together, and one more.
func TestJoinLength(t *testing.T) {
	for _, size := range []int{1, 2, 100, 128, 254, 255} {
		dir := "/" + strings.Repeat("a", size-1)
		name := strings.Repeat("b", 255-size)
		checkJoin(t, dir, name, gopath.Clean(dir+"/"+name), api.OK)
		checkJoin(t, dir, name+"b", "", api.ErrPath)
		checkJoin(t, dir+"a", name, "", api.ErrPath)
	}
	checkJoin(t, "", strings.Repeat("b", 255), "/"+strings.Repeat("b", 255), api.OK)
	checkJoin(t, "", strings.Repeat("b", 256), "", api.ErrPath)
	checkJoin(t, "/"+strings.Repeat("a", 255), "", "", api.ErrPath) // each is good, but a / stands between them
	checkJoin(t, "/"+strings.Repeat("a", 255), "..", "", api.ErrPath)
	checkJoin(t, "/"+strings.Repeat("a", 256), "b", "", api.ErrPath)
	checkJoin(t, "/", strings.Repeat("b", 255), "", api.ErrPath) // with both / it is one byte too long
	checkJoin(t, "/a", strings.Repeat("b", 257), "", api.ErrPath)
	checkJoin(t, "/a", strings.Repeat("../", 85), "", api.ErrPath) // short when cleaned, but too long ahead of that
	checkJoin(t, "/a", strings.Repeat("../", 84), "/", api.OK)
}

// P4.2: many pairs, held against the chapter's words.
func TestJoinManyPairs(t *testing.T) {
	for _, dir := range texts(3, "/", ".", "..", "a", "\x7f") {
		for _, name := range texts(3, "/", ".", "..", "b", " ") {
			whole := dir + "/" + name
			if strings.HasPrefix(name, "/") {
				whole = name
			}
			if !isGood(whole) || whole[0] != '/' {
				checkJoin(t, dir, name, "", api.ErrPath)
			} else {
				checkJoin(t, dir, name, gopath.Clean(whole), api.OK)
			}
		}
	}
}

// P4.3
func TestBaseUp(t *testing.T) {
	for _, c := range [][3]string{
		{"/a/b", "b", "/a"},
		{"/a", "a", "/"},
		{"/", "", "/"},
		{"", "", "/"},
		{"a", "a", "/"},
		{"..", "..", "/"},
		{"a/b", "b", "a"},
		{"a/", "", "a"},
		{"/a/", "", "/a"},
		{"//", "", "/"},
		{"//a", "a", "/"},
		{"///a", "a", "//"},
		{"a//b", "b", "a/"},
		{"/a/..", "..", "/a"},
		{"\xff/\x00 ", "\x00 ", "\xff"},
		{"/a b/\xc3", "\xc3", "/a b"},
		{"/" + strings.Repeat("a", 300), strings.Repeat("a", 300), "/"},
		{strings.Repeat("/a", 300), "a", strings.Repeat("/a", 299)},
	} {
		if got := path.Base(c[0]); got != c[1] {
			t.Errorf("Base(%q): %q, not %q", c[0], got, c[1])
		}
		if got := path.Up(c[0]); got != c[2] {
			t.Errorf("Up(%q): %q, not %q", c[0], got, c[2])
		}
	}
}

// sides: what stands ahead of the last / and behind it, and whether there is one.
func sides(p string) (string, string, bool) {
	for i := len(p) - 1; i >= 0; i-- {
		if p[i] == '/' {
			return p[:i], p[i+1:], true
		}
	}
	return "", p, false
}

// P4.3: any texts, held against the chapter's words.
func TestBaseUpAnyTexts(t *testing.T) {
	for _, p := range append(texts(6, "/", ".", "a", "\xff", " "), strange()...) {
		ahead, behind, _ := sides(p)
		if ahead == "" {
			ahead = "/"
		}
		if got := path.Base(p); got != behind {
			t.Errorf("Base(%q): %q, not %q", p, got, behind)
		}
		if got := path.Up(p); got != ahead {
			t.Errorf("Up(%q): %q, not %q", p, got, ahead)
		}
	}
}

// P4.3
func TestUnderChild(t *testing.T) {
	cases := []struct {
		p, dir       string
		under, child bool
	}{
		{"/ab", "/a", false, false},
		{"/a", "/a", true, false},
		{"/a/b", "/a", true, true},
		{"/a/b/c", "/a", true, false},
		{"/a", "/a/b", false, false},
		{"/a", "/ab", false, false},
		{"/b/a", "/a", false, false},
		{"/a/", "/a", true, true}, // an empty name behind the last /
		{"/a", "/a/", false, false},
		{"/a/b", "/a/", false, false},
		{"/a//b", "/a/", true, true},
		{"/", "/", true, false},
		{"/a", "/", true, true},
		{"/a/b", "/", true, false},
		{"//", "/", true, true},
		{"", "/", false, false},
		{"a", "/", false, true}, // Up of it is the root, as no / is there
		{"a/b", "/", false, false},
		{"a/b", "a", true, true},
		{"", "", true, false},
		{"/", "", true, false},
		{"/a", "", true, false},
		{"a", "", false, false},
		{"", "/a", false, false},
		{"/", "/a", false, false},
		{"/A/b", "/a", false, false},
		{"\xff/b", "\xff", true, true},
		{"\xffb", "\xff", false, false},
	}
	for _, c := range cases {
		if got := path.Under(c.p, c.dir); got != c.under {
			t.Errorf("Under(%q, %q): %v", c.p, c.dir, got)
		}
		if got := path.Child(c.p, c.dir); got != c.child {
			t.Errorf("Child(%q, %q): %v", c.p, c.dir, got)
		}
	}
}

// P4.3: any two texts, held against the chapter's words.
func TestUnderChildAnyTexts(t *testing.T) {
	l := append(texts(4, "/", "a", ".", "\xff"), strange()...)
	for _, p := range l {
		up, _, _ := sides(p)
		if up == "" {
			up = "/"
		}
		for _, dir := range l {
			under := p == dir || len(p) > len(dir) && p[:len(dir)] == dir && p[len(dir)] == '/'
			if dir == "/" {
				under = p != "" && p[0] == '/'
			}
			if path.Under(p, dir) != under {
				t.Errorf("Under(%q, %q): %v", p, dir, !under)
			}
			child := p != "" && p != "/" && up == dir
			if path.Child(p, dir) != child {
				t.Errorf("Child(%q, %q): %v", p, dir, !child)
			}
		}
	}
}

// P4.4
func TestArchive(t *testing.T) {
	cases := []struct {
		p, archive, entry string
		is                bool
	}{
		{"/x.apk!/lib/a.so", "/x.apk", "lib/a.so", true},
		{"/x.apk!/", "/x.apk", "", true},
		{"!/", "", "", true},
		{"!/a", "", "a", true},
		{"/a!/b!/c", "/a", "b!/c", true}, // the first one
		{"!/!/", "", "!/", true},
		{"/a!!/b", "/a!", "b", true},
		{"/a!//b", "/a", "/b", true},
		{"/a! /\xff!/\xff", "/a! /\xff", "\xff", true},
		{"", "", "", false},
		{"/x.apk", "/x.apk", "", false},
		{"/x.apk!", "/x.apk!", "", false},
		{"/x.apk/!", "/x.apk/!", "", false},
		{"/a!b/c", "/a!b/c", "", false},
		{"!", "!", "", false},
		{"/!", "/!", "", false},
		{"\xff", "\xff", "", false},
	}
	for _, c := range cases {
		if archive, entry, is := path.Archive(c.p); archive != c.archive || entry != c.entry || is != c.is {
			t.Errorf("Archive(%q): %q, %q, %v", c.p, archive, entry, is)
		}
	}
}

// P4.4: any texts, held against the chapter's words.
func TestArchiveAnyTexts(t *testing.T) {
	for _, p := range append(texts(6, "/", "!", "a", "\xff"), strange()...) {
		wantArchive, wantEntry, wantIs := p, "", false
		for i := 0; i+1 < len(p) && !wantIs; i++ {
			if p[i] == '!' && p[i+1] == '/' {
				wantArchive, wantEntry, wantIs = p[:i], p[i+2:], true
			}
		}
		if archive, entry, is := path.Archive(p); archive != wantArchive || entry != wantEntry || is != wantIs {
			t.Errorf("Archive(%q): %q, %q, %v", p, archive, entry, is)
		}
	}
}

// P4.4
func TestList(t *testing.T) {
	cases := []struct {
		s    string
		want []string
	}{
		{"", nil},
		{":", nil},
		{":::", nil},
		{"/a", []string{"/a"}},
		{"/a:/b", []string{"/a", "/b"}},
		{":/a::/b:", []string{"/a", "/b"}},
		{"/a:/a", []string{"/a", "/a"}},
		{"b:a", []string{"b", "a"}},
		{"/a/../b:.:..", []string{"/a/../b", ".", ".."}}, // as they are, not cleaned
		{" : ", []string{" ", " "}},
		{"\xff:\x00", []string{"\xff", "\x00"}},
		{"/a;/b", []string{"/a;/b"}},
	}
	for _, c := range cases {
		if got := path.List(c.s); !slices.Equal(got, c.want) {
			t.Errorf("List(%q): %q, not %q", c.s, got, c.want)
		}
	}
	for _, s := range append(texts(6, ":", "/", "a", "\xff"), strange()[:10]...) {
		want := slices.DeleteFunc(split(s, ':'), func(one string) bool { return one == "" })
		if got := path.List(s); !slices.Equal(got, want) {
			t.Errorf("List(%q): %q, not %q", s, got, want)
		}
	}
	if l := path.List(strings.Repeat("/a:", 1000)); len(l) != 1000 {
		t.Error(len(l)) // no limit stands here
	}
}

// P4.5
func TestWhatIsCleanedIsClean(t *testing.T) {
	cleaned := 0
	for _, p := range append(texts(6, "/", ".", "..", "a", "bc"), strange()...) {
		for _, rooted := range []string{p, "/" + p} {
			c, e := path.Clean(rooted)
			if e != api.OK {
				continue
			}
			cleaned++
			if !path.IsClean(c) || !hasCleanForm(c) {
				t.Errorf("Clean(%q): %q isn't clean", rooted, c)
			}
			if again, e := path.Clean(c); again != c || e != api.OK {
				t.Errorf("Clean(%q): %q, %v", c, again, e)
			}
			checkUpAndBase(t, c)
		}
	}
	if cleaned < 10000 {
		t.Error("few paths are cleaned:", cleaned)
	}
}

// checkUpAndBase: a clean path is Up of it, a / (not twice), and its Base.
func checkUpAndBase(t *testing.T, c string) {
	t.Helper()
	if c == "/" {
		return
	}
	up, base := path.Up(c), path.Base(c)
	if strings.TrimSuffix(up, "/")+"/"+base != c || base == "" {
		t.Errorf("%q: Up %q, Base %q", c, up, base)
	}
	if !path.IsClean(up) || !path.Child(c, up) || !path.Under(c, up) {
		t.Errorf("%q: Up %q", c, up)
	}
	// Below the root Join has a second / for a while, which counts.
	if s, e := path.Join(up, base); len(up)+1+len(base) <= api.MaxPath && (s != c || e != api.OK) {
		t.Errorf("Join(%q, %q): %q, %v", up, base, s, e)
	}
}

// P4.5: the longest paths that there are.
func TestUpAndBaseOfLongPaths(t *testing.T) {
	for _, c := range []string{"/" + strings.Repeat("a", 255), strings.Repeat("/a", 128), "/a/" + strings.Repeat("b", 253), "/" + strings.Repeat("a", 253) + "/b"} {
		if len(c) != api.MaxPath || !path.IsClean(c) {
			t.Errorf("%q isn't clean", c)
		}
		checkUpAndBase(t, c)
	}
}

// P4.1, P4.4: what is answered is new memory.
func TestMemoryIsApart(t *testing.T) {
	for _, call := range []func() []string{func() []string { return path.Parts("/a/b") }, func() []string { return path.List("a:b") }} {
		one, other := call(), call()
		one[0], one[1] = "x", "y"
		if !slices.Equal(other, []string{"a", "b"}) || !slices.Equal(call(), []string{"a", "b"}) {
			t.Error(other, call())
		}
	}
}

// P1, P2: each call ends at any texts, and answers the same a second time.
func TestAnyTexts(t *testing.T) {
	for _, p := range strange() {
		for _, q := range strange() {
			one, e := path.Join(p, q)
			other, f := path.Join(p, q)
			if one != other || e != f || e != api.OK && one != "" {
				t.Errorf("Join(%q, %q): %q, %v and %q, %v", p, q, one, e, other, f)
			}
		}
		if s, e := path.Clean(p); e != api.OK && (s != "" || e != api.ErrPath) {
			t.Errorf("Clean(%q): %q, %v", p, s, e)
		}
		if !slices.Equal(path.Parts(p), path.Parts(p)) || !slices.Equal(path.List(p), path.List(p)) {
			t.Errorf("%q: Parts, List", p)
		}
	}
}
