package vfs_test

import (
	"bytes"
	"reflect"
	"slices"
	"strings"
	"testing"

	"messuage/api"
	"messuage/vfs"
)

func dir(p string) api.Node        { return api.Node{Path: p, Kind: api.Dir} }
func file(p, data string) api.Node { return api.Node{Path: p, Kind: api.File, Data: []byte(data)} }
func link(p, to string) api.Node   { return api.Node{Path: p, Kind: api.Link, To: to} }

func system(t *testing.T, nodes ...api.Node) *vfs.FS {
	t.Helper()
	f, e := vfs.New(nodes)
	if f == nil || e != api.OK {
		t.Fatalf("New of %d nodes: %v, %v", len(nodes), f, e)
	}
	return f
}

func checkNew(t *testing.T, what string, want api.Errno, nodes ...api.Node) {
	t.Helper()
	f, e := vfs.New(nodes)
	if e != want || (f == nil) != (want != api.OK) {
		t.Errorf("New, %q: %v, %v, not %v", what, f != nil, e, want)
	}
}

func checkResolve(t *testing.T, f *vfs.FS, p string, want int, wantPath string, wantErr api.Errno) {
	t.Helper()
	if n, own, e := f.Resolve(p); n != want || own != wantPath || e != wantErr {
		t.Errorf("Resolve(%q): %d, %q, %v, not %d, %q, %v", p, n, own, e, want, wantPath, wantErr)
	}
}

func checkOpen(t *testing.T, f *vfs.FS, p string, want int, wantPath, data string, wantErr api.Errno) {
	t.Helper()
	if n, own, b, e := f.Open(p); n != want || own != wantPath || string(b) != data || e != wantErr {
		t.Errorf("Open(%q): %d, %q, %d bytes, %v, not %d, %q, %d bytes, %v", p, n, own, len(b), e, want, wantPath, len(data), wantErr)
	}
}

func checkNames(t *testing.T, f *vfs.FS, p string, wantErr api.Errno, want ...string) {
	t.Helper()
	if l, e := f.Names(p); !slices.Equal(l, want) || e != wantErr {
		t.Errorf("Names(%q): %q, %v, not %q, %v", p, l, e, want, wantErr)
	}
}

// checkFail: each call that takes a path answers the error, and nothing else.
func checkFail(t *testing.T, f *vfs.FS, p string, want api.Errno) {
	t.Helper()
	checkResolve(t, f, p, 0, "", want)
	checkOpen(t, f, p, 0, "", "", want)
	checkNames(t, f, p, want)
}

// P6.1 to P6.3: the chapter's examples.
func TestExamples(t *testing.T) {
	f := system(t, dir("/lib"), file("/lib/a.so", "elf"), link("/l", "lib"), link("/x", "x"))
	checkOpen(t, f, "/l/a.so", 2, "/lib/a.so", "elf", api.OK)
	checkOpen(t, f, "/l/../lib//a.so", 2, "/lib/a.so", "elf", api.OK)
	checkFail(t, f, "/lib/b", api.ErrNone)
	checkFail(t, f, "/lib/a.so/x", api.ErrNotDir)
	checkFail(t, f, "/x", api.ErrLoop)
}

// P6.1 to P6.3: no nodes at all; the root is there.
func TestNoNodes(t *testing.T) {
	for _, none := range [][]api.Node{nil, {}, []api.Node{dir("a"), dir("")}[:0]} {
		f := system(t, none...)
		for _, p := range []string{"/", "//", "/.", "/..", "/../..//./.."} {
			checkResolve(t, f, p, 0, "/", api.OK)
			checkOpen(t, f, p, 0, "", "", api.ErrNotReg)
			checkNames(t, f, p, api.OK)
		}
		checkFail(t, f, "/a", api.ErrNone)
		checkFail(t, f, "/a/..", api.ErrNone)
		if f.Len() != 1 {
			t.Errorf("Len: %d", f.Len())
		}
	}
}

// many: folders side by side.
func many(count int) []api.Node {
	var l []api.Node
	for i := range count {
		l = append(l, dir("/"+string([]byte{'a' + byte(i/26), 'a' + byte(i%26)})))
	}
	return l
}

// P6.1: as many nodes as may be, and one more. P6.3: their names, and how many there are.
func TestMostNodes(t *testing.T) {
	nodes := many(256)
	f := system(t, nodes...)
	checkResolve(t, f, "/aa", 1, "/aa", api.OK)
	checkResolve(t, f, nodes[255].Path, 256, nodes[255].Path, api.OK)
	if f.Len() != 257 {
		t.Errorf("Len: %d", f.Len())
	}
	if l, e := f.Names("/"); len(l) != 256 || !slices.IsSorted(l) || e != api.OK {
		t.Errorf("Names: %q, %v", l, e)
	}
	checkNew(t, "one more", api.ErrMany, many(257)...)
	checkNew(t, "far more", api.ErrMany, make([]api.Node, 70000)...)
	checkNew(t, "one more, and all wrong", api.ErrMany, append([]api.Node{{}}, nodes...)...)
}

// P6.1: paths of nodes.
func TestPathsOfNodes(t *testing.T) {
	longest := "/" + strings.Repeat("n", 255)
	for _, p := range []string{"/a", "/!", "/~", "/...", "/..a", "/.a", "/a.", "/a:b!", longest} {
		f := system(t, file(p, "x"))
		checkOpen(t, f, p, 1, p, "x", api.OK)
		checkOpen(t, system(t, dir("/d"), link("/d/l", p), file(p, "x")), "/d/l", 3, p, "x", api.OK)
		checkNames(t, f, "/", api.OK, p[1:])
	}
	for _, p := range []string{"", "/", "//", "a", "a/b", ".", "..", "/.", "/..", "/a/", "//a", "/a//b", "/a/.", "/a/..", "/a/../b", "/./a", "/../a", "/a b", "/a\x00", "/\x7f", "/\x80", "/\xc3\xa9", " /a", "/a\n", longest + "n", strings.Repeat("/n", 5000)} {
		for _, node := range []api.Node{dir(p), file(p, "x"), link(p, "x"), {Path: p}} {
			checkNew(t, p, api.ErrPath, node)
		}
	}
	deepest := ""
	var nodes []api.Node
	for range 128 {
		deepest += "/n"
		nodes = append(nodes, dir(deepest))
	}
	f := system(t, nodes...)
	checkResolve(t, f, deepest, 128, deepest, api.OK)
	checkNames(t, f, deepest, api.OK)
	// One step further there is nothing, as no node has so long a path.
	checkFail(t, system(t, append(nodes, link("/l", deepest))...), "/l/n", api.ErrNone)
}

// P6.1: kinds, and what they have.
func TestKinds(t *testing.T) {
	some := []byte{0}
	for _, kind := range []api.NodeKind{0, -1, 4, 5, 1 << 40, -1 << 63, 1<<63 - 1} {
		checkNew(t, "no kind", api.ErrKind, api.Node{Path: "/a", Kind: kind})
		checkNew(t, "no kind, with all", api.ErrKind, api.Node{Path: "/a", Kind: kind, Data: some, To: "b"})
	}
	checkNew(t, "a folder", api.OK, dir("/a"))
	checkNew(t, "a folder, no data", api.OK, api.Node{Path: "/a", Kind: api.Dir, Data: []byte{}})
	checkNew(t, "a folder with data", api.ErrKind, api.Node{Path: "/a", Kind: api.Dir, Data: some})
	checkNew(t, "a folder that goes", api.ErrKind, api.Node{Path: "/a", Kind: api.Dir, To: "/"})
	checkNew(t, "a file", api.OK, api.Node{Path: "/a", Kind: api.File})
	checkNew(t, "a file that goes", api.ErrKind, api.Node{Path: "/a", Kind: api.File, Data: some, To: "/"})
	checkNew(t, "a link", api.OK, link("/a", "b"))
	checkNew(t, "a link, no data", api.OK, api.Node{Path: "/a", Kind: api.Link, Data: some[:0], To: "b"})
	checkNew(t, "a link with data", api.ErrKind, api.Node{Path: "/a", Kind: api.Link, Data: some, To: "b"})
	checkNew(t, "a link to nowhere", api.ErrKind, link("/a", ""))
	checkNew(t, "a link to nowhere with data", api.ErrKind, api.Node{Path: "/a", Kind: api.Link, Data: some})
}

// P6.1: how many bytes a file may have. P6.2: they are answered.
func TestGreatestFile(t *testing.T) {
	data := string(bytes.Repeat([]byte("0123456\xff"), 1<<15))
	checkOpen(t, system(t, file("/a", data)), "/a", 1, "/a", data, api.OK)
	checkNew(t, "a byte more", api.ErrBig, file("/a", data+"x"))
	checkNew(t, "twice as many", api.ErrBig, file("/a", data+data))
	great := []byte(data + "x")
	checkNew(t, "a folder", api.ErrKind, api.Node{Path: "/a", Kind: api.Dir, Data: great})
	checkNew(t, "a link", api.ErrKind, api.Node{Path: "/a", Kind: api.Link, Data: great, To: "b"})
	checkNew(t, "a file that goes", api.ErrKind, api.Node{Path: "/a", Kind: api.File, Data: great, To: "b"})
	checkNew(t, "no path", api.ErrPath, file("/", string(great)))
	checkNew(t, "twice", api.ErrBig, dir("/a"), file("/a", string(great)))
}

// P6.1: where links may go.
func TestWhereLinksGo(t *testing.T) {
	for _, to := range []string{"a", "/", "//", ".", "..", "../../..", "/..", "./a/", "nowhere", "!", "~", "/" + strings.Repeat("n", 255), strings.Repeat("n", 254)} {
		checkNew(t, to, api.OK, link("/a", to))
	}
	for _, to := range []string{" ", "a b", "/a\x00", "\x7f", "\x80", "/\xc3\xa9", "a\n", "/" + strings.Repeat("n", 256), strings.Repeat("n", 255), strings.Repeat("n", 256), strings.Repeat("../", 5000)} {
		checkNew(t, to, api.ErrPath, link("/a", to))
		checkNew(t, to, api.ErrPath, link("/a", "b"), link("/a", to))
		checkNew(t, to, api.ErrKind, file("/b", ""), api.Node{Path: "/a", Kind: api.File, To: to})
	}
}

// P6.1: two nodes of one path.
func TestTwice(t *testing.T) {
	for _, a := range []api.Node{dir("/a"), file("/a", "x"), link("/a", "b")} {
		for _, b := range []api.Node{dir("/a"), file("/a", "x"), link("/a", "b")} {
			checkNew(t, "twice", api.ErrTwice, a, b)
			checkNew(t, "twice, apart", api.ErrTwice, dir("/c"), a, dir("/b"), b)
		}
	}
	checkNew(t, "names alike", api.OK, dir("/a"), dir("/A"), dir("/a/a"), dir("/A/a"))
}

// P6.1: the folders of nodes.
func TestParents(t *testing.T) {
	checkNew(t, "none", api.ErrParent, dir("/a/b"))
	checkNew(t, "a file", api.ErrParent, file("/a", ""), dir("/a/b"))
	checkNew(t, "a link to a folder", api.ErrParent, dir("/c"), link("/a", "c"), dir("/a/b"))
	checkNew(t, "a link to the root", api.ErrParent, link("/a", "/"), dir("/a/b"))
	checkNew(t, "one between is none", api.ErrParent, dir("/a"), dir("/a/b/c"))
	checkNew(t, "one of a like name", api.ErrParent, dir("/a"), dir("/ab/c"))
	checkNew(t, "the last one's", api.ErrParent, dir("/a"), file("/a/b", ""), file("/c", ""), link("/c/d", "/"))
	f := system(t, file("/a/b/c", "x"), dir("/a/b"), link("/a/d", "b"), dir("/a"))
	checkOpen(t, f, "/a/b/c", 1, "/a/b/c", "x", api.OK)
	checkOpen(t, f, "/a/d/c", 1, "/a/b/c", "x", api.OK)
	checkResolve(t, f, "/a", 4, "/a", api.OK)
}

// P6.1: which error is named first.
func TestFirstError(t *testing.T) {
	big := make([]byte, 1<<18+1)
	checkNew(t, "ErrPath, ErrKind", api.ErrPath, api.Node{Path: "a"})
	checkNew(t, "ErrKind, ErrBig", api.ErrKind, api.Node{Path: "/a", Data: big})
	checkNew(t, "ErrKind, ErrPath of To", api.ErrKind, api.Node{Path: "/a", Kind: api.Link, Data: big, To: " "})
	checkNew(t, "ErrKind, ErrTwice", api.ErrKind, dir("/a"), api.Node{Path: "/a"})
	checkNew(t, "ErrBig, ErrTwice", api.ErrBig, dir("/a"), api.Node{Path: "/a", Kind: api.File, Data: big})
	checkNew(t, "ErrPath of To, ErrTwice", api.ErrPath, dir("/a"), link("/a", " "))
	checkNew(t, "ErrTwice, ErrParent", api.ErrTwice, dir("/a/b"), dir("/a/b"))
	wrong := []struct {
		want  api.Errno
		nodes []api.Node
	}{
		{api.ErrPath, []api.Node{dir("b")}},
		{api.ErrKind, []api.Node{{Path: "/b"}}},
		{api.ErrBig, []api.Node{{Path: "/b", Kind: api.File, Data: big}}},
		{api.ErrPath, []api.Node{link("/b", " ")}},
		{api.ErrTwice, []api.Node{dir("/b"), file("/b", "x")}},
	}
	for i, a := range wrong {
		checkNew(t, "ahead of ErrParent", a.want, append([]api.Node{dir("/none/c")}, a.nodes...)...)
		for j, b := range wrong {
			// Twice is the one of its two nodes that stands behind.
			if i != j && i < 4 && j < 4 {
				checkNew(t, "the first node's", a.want, append(slices.Clone(a.nodes), b.nodes...)...)
			}
		}
	}
	checkNew(t, "ErrTwice ahead", api.ErrTwice, dir("/a"), dir("/a"), dir("b"))
	checkNew(t, "ErrTwice behind", api.ErrPath, dir("/a"), dir("b"), dir("/a"))
}

// P6.2, P6.3: paths that are none.
func TestWrongPaths(t *testing.T) {
	f := system(t, dir("/a"), file("/a/b", "x"), link("/x", "x"))
	longest := "/a" + strings.Repeat("/", 253) + "b"
	checkOpen(t, f, longest, 2, "/a/b", "x", api.OK)
	for _, p := range []string{"", "a", "a/b", ".", "..", "./a", " /a", "/a b", "/a\x00", "/a/\x7f", "/\x80", "/\xc3\xa9", "/a\n", "//" + longest[1:], strings.Repeat("/", 70000), "x", "/x ", "/none/ ", "/a/b/c\t"} {
		checkFail(t, f, p, api.ErrPath)
	}
}

// P6.2: what is met on the way is told as it is met.
func TestOnTheWay(t *testing.T) {
	f := system(t, dir("/d"), dir("/d/e"), file("/d/f", "x"), link("/x", "x"), link("/gone", "none/d"), link("/d/f2", "f"))
	cases := []struct {
		p    string
		want api.Errno
	}{
		{"/none", api.ErrNone},
		{"/none/..", api.ErrNone},
		{"/none/../d", api.ErrNone},
		{"/none/x", api.ErrNone},
		{"/d/x", api.ErrNone},
		{"/d/e/f", api.ErrNone},
		{"/D", api.ErrNone},
		{"/gone", api.ErrNone},
		{"/gone/..", api.ErrNone},
		{"/x/none", api.ErrLoop},
		{"/x/..", api.ErrLoop},
		{"/d/../x/../d/f/g", api.ErrLoop},
		{"/d/f/g", api.ErrNotDir},
		{"/d/f/..", api.ErrNotDir},
		{"/d/f/../f", api.ErrNotDir},
		{"/d/f/none/x", api.ErrNotDir},
		{"/d/f2/..", api.ErrNotDir},
		{"/d/f2/../../x", api.ErrNotDir},
	}
	for _, c := range cases {
		checkFail(t, f, c.p, c.want)
	}
	// What says nothing is no name: none is left.
	for _, p := range []string{"/d/f", "/d/f/", "/d/f/.", "/d/f//.//", "/./d/./f", "/d/e/../f", "/../d/e/.././../d//f", "/d/f2/.", "/../d/f"} {
		checkOpen(t, f, p, 3, "/d/f", "x", api.OK)
		checkResolve(t, f, p, 3, "/d/f", api.OK)
		checkNames(t, f, p, api.ErrNotDir)
	}
	for _, p := range []string{"/d", "/d/", "/d/e/..", "/d/e/../../d/."} {
		checkResolve(t, f, p, 1, "/d", api.OK)
		checkOpen(t, f, p, 0, "", "", api.ErrNotReg)
		checkNames(t, f, p, api.OK, "e", "f", "f2")
	}
	for _, p := range []string{"/", "/..", "/d/..", "/d/e/../..", "/d/../../../.."} {
		checkResolve(t, f, p, 0, "/", api.OK)
	}
}

// P6.2: links to folders, to the root, to files, to what is none; absolute ones, and from their own folder on.
func TestLinks(t *testing.T) {
	f := system(t,
		dir("/a"), dir("/a/b"), file("/a/b/f", "deep"), file("/f", "top"),
		link("/root", "/"), link("/a/b/up", ".."), link("/a/here", "."), link("/a/b/far", "../../../../f"),
		link("/a/b/abs", "/a/b/f"), link("/a/f", "b/f"), link("/ab", "a//./b/"), link("/a/b/over", "/../../a"), link("/dots", ".."),
		link("/a/b/byroot", "/root/a"), link("/file", "f"), link("/through", "f/x"), link("/behind", "ab/../f"))
	cases := []struct {
		p    string
		n    int
		path string
	}{
		{"/root", 0, "/"},
		{"/root/root/a", 1, "/a"},
		{"/dots", 0, "/"},
		{"/a/here", 1, "/a"},
		{"/a/here/here/b/..", 1, "/a"},
		{"/a/b/up", 1, "/a"},
		{"/a/b/up/b/up/b", 2, "/a/b"},
		{"/a/b/up/..", 0, "/"},
		{"/a/b/far", 4, "/f"},
		{"/a/b/abs", 3, "/a/b/f"},
		{"/a/f", 3, "/a/b/f"},
		{"/ab", 2, "/a/b"},
		{"/ab/..", 1, "/a"},
		{"/ab/../f", 3, "/a/b/f"},
		{"/ab/../../f", 4, "/f"},
		{"/behind", 3, "/a/b/f"},
		{"/root/../f", 4, "/f"},
		{"/a/b/over/b", 2, "/a/b"},
		{"/a/b/byroot", 1, "/a"},
		{"/file", 4, "/f"},
	}
	for _, c := range cases {
		checkResolve(t, f, c.p, c.n, c.path, api.OK)
	}
	checkOpen(t, f, "/ab/f", 3, "/a/b/f", "deep", api.OK)
	checkOpen(t, f, "/a/b/up/here/f", 3, "/a/b/f", "deep", api.OK)
	checkOpen(t, f, "/root", 0, "", "", api.ErrNotReg)
	checkFail(t, f, "/file/x", api.ErrNotDir)
	checkFail(t, f, "/through", api.ErrNotDir)
	checkNames(t, f, "/a/b/byroot/b/up", api.OK, "b", "f", "here")
	checkNames(t, f, "/file", api.ErrNotDir)
}

// P6.2: the eighth and the ninth link on a way, however they are met.
func TestHops(t *testing.T) {
	var nodes []api.Node
	for i := range 10 {
		nodes = append(nodes, link("/l"+string(rune('0'+i)), "l"+string(rune('1'+i))))
	}
	nodes[9].To = "d"
	f := system(t, append(nodes, dir("/d"), file("/d/f", "x"), link("/d/me", "."), link("/d/root", "/"), link("/d/none", "no"), link("/two", "d/me/me"), link("/r", "/"))...)
	checkResolve(t, f, "/l2", 11, "/d", api.OK)
	checkOpen(t, f, "/l2/f", 12, "/d/f", "x", api.OK)
	checkFail(t, f, "/l1", api.ErrLoop)
	checkFail(t, f, "/l1/f", api.ErrLoop)
	checkFail(t, f, "/l0", api.ErrLoop)
	checkResolve(t, f, "/l3/me", 11, "/d", api.OK)
	checkFail(t, f, "/l2/me", api.ErrLoop)
	checkResolve(t, f, "/d"+strings.Repeat("/me", 8), 11, "/d", api.OK)
	checkFail(t, f, "/d"+strings.Repeat("/me", 9), api.ErrLoop)
	checkResolve(t, f, "/d"+strings.Repeat("/me/../d", 8), 11, "/d", api.OK)
	checkFail(t, f, "/d"+strings.Repeat("/me/../d", 9), api.ErrLoop)
	checkResolve(t, f, strings.Repeat("/r", 8), 0, "/", api.OK)
	checkFail(t, f, strings.Repeat("/r", 9), api.ErrLoop)
	checkResolve(t, f, "/two/root/two/me", 11, "/d", api.OK)
	checkResolve(t, f, "/two/root/two/me/..", 0, "/", api.OK)
	checkFail(t, f, "/two/root/two/me/root", api.ErrLoop)
	// The ninth is one too many, whatever it says, and what is none before it is told.
	checkFail(t, f, "/l3/none", api.ErrNone)
	checkFail(t, f, "/l2/none", api.ErrLoop)
	checkFail(t, f, "/l2/no", api.ErrNone)
	checkFail(t, f, "/l2/f/me", api.ErrNotDir)
	// Each path begins anew.
	checkResolve(t, f, "/l2", 11, "/d", api.OK)
}

// P6.2: links that never end.
func TestLoops(t *testing.T) {
	f := system(t, link("/a", "b"), link("/b", "/a"), link("/me", "me"), link("/more", "more/more"), link("/long", strings.Repeat("long/", 50)), dir("/d"), link("/d/up", "../d/up"))
	for _, p := range []string{"/a", "/b", "/me", "/more", "/long", "/d/up", "/d/up/../../none", "/a/.."} {
		checkFail(t, f, p, api.ErrLoop)
	}
	checkNames(t, f, "/d", api.OK, "up")
}

// P6.3
func TestNames(t *testing.T) {
	f := system(t, dir("/b"), dir("/b/z"), file("/b/z/deep", "x"), link("/b/ab", "z"), file("/b/a.b", ""), dir("/b/a"), file("/b/B", ""), dir("/b/~"), dir("/b/!"), file("/b/a-", "x"), file("/b/a0", ""), dir("/bb"), file("/bb/x", ""), link("/0", "/b"))
	checkNames(t, f, "/b", api.OK, "!", "B", "a", "a-", "a.b", "a0", "ab", "z", "~")
	checkNames(t, f, "/0", api.OK, "!", "B", "a", "a-", "a.b", "a0", "ab", "z", "~")
	checkNames(t, f, "/", api.OK, "0", "b", "bb")
	checkNames(t, f, "/b/ab", api.OK, "deep")
	checkNames(t, f, "/bb", api.OK, "x")
	checkNames(t, f, "/b/a", api.OK)
	checkNames(t, f, "/b/a0", api.ErrNotDir)
	checkNames(t, f, "/b/a0/x", api.ErrNotDir)
	if f.Len() != 15 {
		t.Errorf("Len: %d", f.Len())
	}
}

// P6.4: what is handed in is neither changed nor kept, and what is answered is new.
func TestNothingShared(t *testing.T) {
	data := []byte("abcdef")
	nodes := []api.Node{dir("/d"), {Path: "/d/f", Kind: api.File, Data: data[:3]}, link("/l", "d"), file("/g", "g"), {Path: "/"}}
	before := slices.Clone(nodes)
	before[1].Data = []byte("abc")
	f := system(t, nodes[:4]...)
	if !reflect.DeepEqual(nodes, before) || string(data) != "abcdef" {
		t.Error("New has changed the nodes")
	}
	copy(data, "ABCDEF")
	for i := range nodes {
		nodes[i] = api.Node{}
	}
	checkOpen(t, f, "/l/f", 2, "/d/f", "abc", api.OK)
	_, _, got, _ := f.Open("/d/f")
	if behind := got[:cap(got)]; bytes.ContainsAny(behind, "defDEF") {
		t.Errorf("Open has handed out what lies behind: %q", behind)
	}
	copy(got, "xyz")
	_ = append(got, "more"...)
	checkOpen(t, f, "/l/f", 2, "/d/f", "abc", api.OK)
	names, _ := f.Names("/")
	for i := range names {
		names[i] = "none"
	}
	_ = append(names, "more")
	checkNames(t, f, "/", api.OK, "d", "g", "l")
	if f.Len() != 5 {
		t.Errorf("Len: %d", f.Len())
	}
}

// P6.4: one node list makes file systems that go their own ways.
func TestTwoSystems(t *testing.T) {
	nodes := []api.Node{file("/a", "x")}
	f := system(t, nodes...)
	nodes[0].Data[0] = 'y'
	g := system(t, nodes...)
	checkOpen(t, f, "/a", 1, "/a", "x", api.OK)
	checkOpen(t, g, "/a", 1, "/a", "y", api.OK)
}
