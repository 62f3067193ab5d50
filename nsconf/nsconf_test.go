package nsconf_test

import (
	"fmt"
	"slices"
	"strings"
	"testing"

	"messuage/api"
	"messuage/nsconf"
)

// show: namespaces as one text, unlike for those that are unlike; a nil list is an empty one.
func show(l []api.Space) string {
	s := ""
	for _, x := range l {
		s += fmt.Sprintf("%q isolated %t visible %t search %q permitted %q allowed %q", x.Name, x.Isolated, x.Visible, x.Search, x.Permitted, x.Allowed)
		for _, k := range x.Links {
			s += fmt.Sprintf(" link %q %q %t", k.To, k.Libs, k.All)
		}
		s += "\n"
	}
	return s
}

// clone: namespaces that share nothing with these.
func clone(l []api.Space) []api.Space {
	l = slices.Clone(l)
	for i, s := range l {
		l[i].Search, l[i].Permitted, l[i].Allowed, l[i].Links = slices.Clone(s.Search), slices.Clone(s.Permitted), slices.Clone(s.Allowed), slices.Clone(s.Links)
		for k := range l[i].Links {
			l[i].Links[k].Libs = slices.Clone(s.Links[k].Libs)
		}
	}
	return l
}

// numbered: so many texts, with the numbers from 0 on behind.
func numbered(many int, ahead string) []string {
	var l []string
	for i := range many {
		l = append(l, ahead+fmt.Sprint(i))
	}
	return l
}

// first: the first namespace with these links.
func first(links ...api.LinkTo) api.Space { return api.Space{Name: "default", Links: links} }

// all: a link that lets through all.
func all(to string) api.LinkTo { return api.LinkTo{To: to, All: true} }

// some: a link that lets through some.
func some(to string, libs ...string) api.LinkTo { return api.LinkTo{To: to, Libs: libs} }

// many: so many links, each to another namespace.
func many(n int, ahead string) []api.LinkTo {
	var l []api.LinkTo
	for _, to := range numbered(n, ahead) {
		l = append(l, all(to))
	}
	return l
}

// named: namespaces of these names that have nothing.
func named(names ...string) []api.Space {
	var l []api.Space
	for _, name := range names {
		l = append(l, api.Space{Name: name})
	}
	return l
}

// P19.2, P19.3: the chapter's example.
func TestExample(t *testing.T) {
	sec := part("namespace.default.isolated", "true", "namespace.default.search.paths", "/system/${LIB}")
	l := []api.Space{{Name: "default", Isolated: true, Search: []string{"/system/lib64"}}}
	checkBuild(t, sec, 29, l)
	checkWrite(t, l, "dir.all = /\n[all]\nnamespace.default.isolated = true\nnamespace.default.search.paths = /system/lib64\n")
}

// P19.1
func TestFirst(t *testing.T) {
	if nsconf.First != "default" || !nsconf.Name(nsconf.First) {
		t.Error(nsconf.First)
	}
}

// P19.1
func TestName(t *testing.T) {
	for _, s := range []string{"a", "z", "default", "a0", "a9", "a_", "a__", "abc_09z", "z9_a", strings.Repeat("a", 63), strings.Repeat("a", 64), "b" + strings.Repeat("_", 63)} {
		if !nsconf.Name(s) {
			t.Errorf("Name(%q)", s)
		}
	}
	for _, s := range []string{"", "0", "9a", "0a", "_", "_a", "A", "Z", "Aa", "aA", "aZz", "a.b", "a-b", "a b", " a", "a ", "a,b", "a:b", "a=b", "a\n", "a\x00", "\xff", "aé", "é", "${LIB}", strings.Repeat("a", 65), strings.Repeat("a", 1000), "_" + strings.Repeat("a", 63)} {
		if nsconf.Name(s) {
			t.Errorf("Name(%q)", s)
		}
	}
	for b := range 256 {
		one := string([]byte{byte(b)})
		ahead := strings.Contains("abcdefghijklmnopqrstuvwxyz", one)
		behind := ahead || strings.Contains("0123456789_", one)
		if nsconf.Name(one) != ahead || nsconf.Name(one+"a") != ahead || nsconf.Name("a"+one) != behind || nsconf.Name("a"+one+"a") != behind || nsconf.Name("ab"+one+one) != behind {
			t.Errorf("Name with %q", one)
		}
	}
}

// checkLibs: may these be names of libraries, by themselves and as what a namespace allows and a link lets through?
func checkLibs(t *testing.T, want bool, l ...string) {
	t.Helper()
	held := slices.Clone(l)
	if nsconf.Libs(l) != want {
		t.Errorf("Libs(%.300q): not %t", l, want)
	}
	s := api.Space{Name: "default", Allowed: l}
	if nsconf.Parts(s) != want || nsconf.Right([]api.Space{s}) != want {
		t.Errorf("Parts, Right of allowed %.300q: not %t", l, want)
	}
	if len(l) > 0 && nsconf.Link(some("a", l...)) != want {
		t.Errorf("Link of %.300q: not %t", l, want)
	}
	if !slices.Equal(l, held) {
		t.Errorf("%q is %q now", held, l)
	}
}

// P19.1
func TestLibs(t *testing.T) {
	checkLibs(t, true)
	checkLibs(t, true, "a")
	checkLibs(t, true, "liba.so", "libb.so", "a", "b", "aa")
	checkLibs(t, true, "!", "~", ".", "..", "a;b", "a|b", "{LIB}", "a!b", "A", "\"", "+", "[a]")
	checkLibs(t, true, strings.Repeat("a", 64), strings.Repeat("b", 64), strings.Repeat("a", 63))
	checkLibs(t, true, numbered(31, "a")...)
	checkLibs(t, true, numbered(32, "a")...)
	checkLibs(t, false, numbered(33, "a")...)
	checkLibs(t, false, numbered(1000, "a")...)
	for _, wrong := range []string{"", strings.Repeat("a", 65), "a b", " ", " a", "a ", "a\t", "\n", "\x00", "\x1f", "\x7f", "\x80", "\xff", "aé", "/", "/a", "a/b", ":", "a:", ",", "a,b", "#", "a#", "=", "=a", "$", "a$", "${LIB}"} {
		checkLibs(t, false, wrong)
		checkLibs(t, false, "a", "b", wrong)
		checkLibs(t, false, wrong, "a")
	}
	checkLibs(t, false, "a", "a")
	checkLibs(t, false, "a", "b", "c", "a")
	checkLibs(t, false, "a", "b", "b", "c")
	checkLibs(t, false, append(numbered(31, "a"), "a30")...)
	checkLibs(t, false, append(numbered(31, "a"), "")...)
	if !nsconf.Libs(append(numbered(30, "a"), "a0", "", "/")[:30]) {
		t.Error("what lies behind a list's length is read")
	}
}

// P19.1: each byte in a library's name and in a folder.
func TestBytes(t *testing.T) {
	for b := range 256 {
		one := string([]byte{byte(b)})
		lib := b >= 33 && b <= 126 && !strings.Contains("/:,#=$", one)
		for _, s := range []string{one, "a" + one, one + "a", "a" + one + "b"} {
			checkLibs(t, lib, s)
		}
		folder := b >= 33 && b <= 126 && !strings.Contains(":,#=$", one)
		for _, s := range []string{"/a" + one + "b", "/a/b!/c" + one + "d"} {
			checkPaths(t, folder, s)
		}
		checkPaths(t, folder && b != '/', "/a"+one)
		checkPaths(t, folder && b != '/' && b != '.', "/"+one)
	}
}

// checkPaths: may these be folders, by themselves and as those of a namespace?
func checkPaths(t *testing.T, want bool, l ...string) {
	t.Helper()
	held := slices.Clone(l)
	search, permitted := api.Space{Name: "default", Search: l}, api.Space{Name: "default", Permitted: l}
	if nsconf.Paths(l) != want {
		t.Errorf("Paths(%.300q): not %t", l, want)
	}
	if nsconf.Parts(search) != want || nsconf.Parts(permitted) != want || nsconf.Right([]api.Space{search}) != want || nsconf.Right([]api.Space{permitted}) != want {
		t.Errorf("Parts, Right of %.300q: not %t", l, want)
	}
	if !slices.Equal(l, held) {
		t.Errorf("%q is %q now", held, l)
	}
}

// P19.1
func TestPaths(t *testing.T) {
	checkPaths(t, true)
	for _, p := range []string{"/", "/a", "/a/b", "/system/lib64", "/...", "/.a/a.", "/a!b", "/!", "/~", "/{LIB}", "/" + strings.Repeat("a", 255), strings.Repeat("/a", 128)} {
		checkPaths(t, true, p)
		checkPaths(t, true, "/x", p, "/x", p)
	}
	for _, p := range []string{"", "a", ".", "a/b", "./a", "//", "//a", "/a/", "/a//b", "/.", "/..", "/a/.", "/a/..", "/a/../b", "/./a", " /a", "/a ", "/a b", "/a\n", "/\x00", "/\x7f", "/\xff", "/é", "/" + strings.Repeat("a", 256), strings.Repeat("/a", 20000)} {
		checkPaths(t, false, p)
		checkPaths(t, false, "/x", p)
		checkPaths(t, false, p, "/x")
	}
	for _, sign := range []string{":", ",", "#", "=", "$", "${LIB}"} {
		for _, p := range []string{"/" + sign, "/a" + sign, "/" + sign + "a/b", "/a/b" + sign + "c", sign + "/a", "/x.apk" + sign + "!/lib", "/x.apk!/lib" + sign, "/x.apk!/" + sign} {
			checkPaths(t, false, p)
			checkPaths(t, false, "/x", p)
		}
	}
	checkPaths(t, true, numbered(31, "/a")...)
	checkPaths(t, true, numbered(32, "/a")...)
	checkPaths(t, true, slices.Repeat([]string{"/a"}, 32)...)
	checkPaths(t, false, numbered(33, "/a")...)
	checkPaths(t, false, slices.Repeat([]string{"/"}, 33)...)
	checkPaths(t, false, slices.Repeat([]string{"/a"}, 5000)...)
	if !nsconf.Paths([]string{"/a", "b"}[:1]) {
		t.Error("what lies behind a list's length is read")
	}
}

// P19.1: folders of archives.
func TestArchives(t *testing.T) {
	long := strings.Repeat("a", 255)
	for _, p := range []string{"/x.apk!/lib", "/x.apk!/lib/arm", "/x.apk!/", "/!/", "/!/a", "/a/b!/c", "/a!b!/c", "/x!/y!/z", "/x!/y!", "/x!/!", "/" + long + "!/" + long, "/" + long + "!/", "/a!/" + long} {
		checkPaths(t, true, p)
	}
	for _, p := range []string{"x.apk!/lib", "!/", "!/lib", "/x.apk!//lib", "/x.apk!//", "/x.apk!/lib/", "/x.apk!/lib/.", "/x.apk!/../a", "/x.apk!/..", "/x.apk!/.", "/x.apk!/a//b", "//x.apk!/lib", "/x/../y!/lib", "/x/!/", "/./x!/a", "/./x!/", "/x.apk!/li b", "/x.a pk!/lib", "/x!/y!/", "/" + long + "a!/a", "/a!/" + long + "a", "/a/x.apk!/" + long + "b", "/x.apk!/\xff"} {
		checkPaths(t, false, p)
	}
}

// P19.1
func TestLink(t *testing.T) {
	for _, l := range []api.LinkTo{all("a"), all("default"), some("a", "x"), some("b_9", "x", "y"), some(strings.Repeat("a", 64), numbered(32, "x")...), {To: "a", Libs: []string{}, All: true}} {
		if !nsconf.Link(l) {
			t.Errorf("Link(%v)", l)
		}
	}
	for _, l := range []api.LinkTo{{}, {All: true}, {To: "a"}, {To: "a", Libs: []string{}}, {To: "a", Libs: []string{"x"}, All: true}, {To: "a", Libs: []string{"", "x"}, All: true}, {To: "a", Libs: []string{""}, All: true}, {Libs: []string{"x"}}, all("A"), all("_a"), all("9"), all("a.b"), all(strings.Repeat("a", 65)), some("A", "x"), some("a", ""), some("a", "x", "x"), some("a", "x/y"), some("a", numbered(33, "x")...)} {
		if nsconf.Link(l) {
			t.Errorf("Link(%v)", l)
		}
	}
	if !nsconf.Link(api.LinkTo{To: "a", Libs: []string{"x"}[:0], All: true}) {
		t.Error("what lies behind a list's length is read")
	}
}

// P19.1: by how many links there are, and where they lead; nothing else is asked.
func TestFits(t *testing.T) {
	for _, c := range []struct {
		s    api.Space
		l    api.LinkTo
		want bool
	}{
		{first(), all("a"), true},
		{first(all("b")), all("a"), true},
		{first(all("b"), some("c", "x")), some("a", "x"), true},
		{first(), all("default"), false},
		{first(all("b")), all("default"), false},
		{first(all("a")), all("a"), false},
		{first(all("a")), some("a", "x"), false},
		{first(all("b"), some("a", "x"), all("c")), some("a", "y"), false},
		{first(all("b"), all("c"), all("a")), all("a"), false},
		{first(many(14, "b")...), all("a"), true},
		{first(many(15, "b")...), all("a"), true},
		{first(many(16, "b")...), all("a"), false},
		{first(many(17, "b")...), all("a"), false},
		{first(many(15, "a")...), all("a14"), false},
		{first(many(3000, "b")...), all("a"), false},
		{first(many(16, "b")[:15]...), all("b15"), true},
		{api.Space{Name: "x"}, all("default"), true},
		{api.Space{Name: "x"}, all("x"), false},
		{api.Space{}, all(""), false},
		{api.Space{}, all("a"), true},
		{first(), all(""), true},
		{first(), api.LinkTo{To: "A", Libs: []string{"/", ""}, All: true}, true},
		{api.Space{Name: "A", Search: []string{""}, Allowed: []string{"/"}, Links: []api.LinkTo{{}, {}}}, all("b"), true},
		{api.Space{Name: "A", Links: []api.LinkTo{{}, {}}}, api.LinkTo{}, false},
		{first(all("default")), all("a"), true},
	} {
		if nsconf.Fits(c.s, c.l) != c.want {
			t.Errorf("Fits(%s, %v): not %t", show([]api.Space{c.s}), c.l, c.want)
		}
	}
}

// checkParts: may a namespace's parts be, whatever its name is, and may it be, too, if it is the first one and all to which it has links are there?
func checkParts(t *testing.T, want bool, s api.Space) {
	t.Helper()
	held := clone([]api.Space{s})
	if nsconf.Parts(s) != want {
		t.Errorf("Parts(%s): not %t", show(held), want)
	}
	l := []api.Space{s}
	for _, k := range s.Links {
		if !slices.ContainsFunc(l, func(x api.Space) bool { return x.Name == k.To }) {
			l = append(l, api.Space{Name: k.To})
		}
	}
	if len(l) <= api.MaxNs && nsconf.Right(l) != want {
		t.Errorf("Right(%s): not %t", show(l), want)
	}
	if show([]api.Space{s}) != show(held) {
		t.Errorf("%s is %s now", show(held), show([]api.Space{s}))
	}
}

// P19.1
func TestParts(t *testing.T) {
	checkParts(t, true, first())
	checkParts(t, true, api.Space{Name: "default", Isolated: true, Visible: true, Search: []string{"/a"}, Permitted: []string{"/b"}, Allowed: []string{"x"}, Links: []api.LinkTo{all("a"), some("b", "x", "y")}})
	checkParts(t, false, api.Space{Name: "default", Search: []string{"/a"}, Permitted: []string{"b"}, Allowed: []string{"x"}})
	checkParts(t, false, api.Space{Name: "default", Search: []string{"x"}})
	checkParts(t, false, api.Space{Name: "default", Allowed: []string{"/a"}})
	checkParts(t, false, api.Space{Name: "default", Permitted: []string{"x"}})
	checkParts(t, true, first(many(15, "b")...))
	checkParts(t, true, first(many(16, "b")...))
	checkParts(t, false, first(many(17, "b")...))
	checkParts(t, false, first(many(4000, "b")...))
	checkParts(t, false, first(all("default")))
	checkParts(t, false, first(all("a"), all("default")))
	checkParts(t, false, first(all("a"), all("a")))
	checkParts(t, false, first(all("a"), all("b"), some("a", "x")))
	checkParts(t, false, first(all("a"), some("b")))
	checkParts(t, false, first(api.LinkTo{To: "a", Libs: []string{"x"}, All: true}, all("b")))
	checkParts(t, false, first(all("a"), all("B")))
	checkParts(t, false, first(all("")))
	checkParts(t, false, first(some("a", "x", "x")))
	checkParts(t, true, first(some("a", "x"), some("b", "x")))
	for _, name := range []string{"", "A", "a b", "a.", strings.Repeat("a", 65)} {
		if !nsconf.Parts(api.Space{Name: name}) || !nsconf.Parts(api.Space{Name: name, Links: []api.LinkTo{all("a")}}) {
			t.Errorf("Parts asks for the name %q", name)
		}
	}
}

// checkRight: may namespaces be; then what is written of them is asked, too, with the same answer.
func checkRight(t *testing.T, want bool, l ...api.Space) {
	t.Helper()
	held := show(l)
	if nsconf.Right(l) != want {
		t.Errorf("Right(%s): not %t", held, want)
	}
	if text, e := nsconf.Write(l); (e == api.OK) != want || want != (text != "") || !want && e != api.ErrValue {
		t.Errorf("Write(%s): %q, %v", held, text, e)
	}
	if show(l) != held {
		t.Errorf("%s is %s now", held, show(l))
	}
}

// P19.1, P19.3
func TestRight(t *testing.T) {
	names := append([]string{"default"}, numbered(16, "a")...)
	checkRight(t, false)
	checkRight(t, true, named("default")...)
	checkRight(t, true, named("default", "a")...)
	checkRight(t, true, named("default", "b", "a", "a0", "a_", strings.Repeat("a", 64))...)
	checkRight(t, true, named(names[:15]...)...)
	checkRight(t, true, named(names[:16]...)...)
	checkRight(t, false, named(names[:17]...)...)
	checkRight(t, false, named(append([]string{"default"}, numbered(3000, "a")...)...)...)
	checkRight(t, false, named("a")...)
	checkRight(t, false, named("a", "default")...)
	checkRight(t, false, named("")...)
	checkRight(t, false, named("Default")...)
	checkRight(t, false, named("default", "default")...)
	checkRight(t, false, named("default", "a", "a")...)
	checkRight(t, false, named("default", "a", "b", "a")...)
	checkRight(t, false, named("default", "a", "default")...)
	for _, name := range []string{"", "A", "_a", "9", "a.b", "a b", "a\n", "é", strings.Repeat("a", 65)} {
		checkRight(t, false, named("default", name)...)
		checkRight(t, false, named("default", name, "a")...)
	}
	checkRight(t, true, append(named("default", "a"), api.Space{Name: "b", Links: []api.LinkTo{all("a"), some("default", "x")}})...)
	checkRight(t, true, first(all("b"), all("a")), api.Space{Name: "a", Links: []api.LinkTo{all("default")}}, api.Space{Name: "b"})
	checkRight(t, false, first(all("b")), api.Space{Name: "a"})
	checkRight(t, false, first(all("a")))
	checkRight(t, false, first(all("a"), some("b", "x")), api.Space{Name: "a"})
	checkRight(t, false, first(), api.Space{Name: "a", Links: []api.LinkTo{all("default"), all("b")}})
	checkRight(t, false, first(), api.Space{Name: "a", Links: []api.LinkTo{all("a")}})
	checkRight(t, false, first(), api.Space{Name: "a", Links: []api.LinkTo{all("default"), all("default")}})
	checkRight(t, false, first(), api.Space{Name: "a", Search: []string{"a"}})
	checkRight(t, false, first(), api.Space{Name: "a", Permitted: []string{"/a/"}})
	checkRight(t, false, first(), api.Space{Name: "a", Allowed: []string{"x", "x"}})
	l := named(names[:16]...)
	for i := range l {
		for k := range l {
			if k != i {
				l[i].Links = append(l[i].Links, all(l[k].Name))
			}
		}
	}
	checkRight(t, true, l...)
	l[15].Links = append(l[15].Links, all("b"))
	checkRight(t, false, l...)
	if !nsconf.Right(named("default", "", "A")[:1]) {
		t.Error("what lies behind a list's length is read")
	}
}

// checkSame: are two rows the same, from both sides?
func checkSame(t *testing.T, want bool, a, b []api.Space) {
	t.Helper()
	if nsconf.Same(a, b) != want || nsconf.Same(b, a) != want {
		t.Errorf("Same(%s, %s): not %t", show(a), show(b), want)
	}
}

// P19.1
func TestSame(t *testing.T) {
	whole := []api.Space{
		{Name: "default", Search: []string{"/a", "/b"}, Permitted: []string{"/c", "/d"}, Allowed: []string{"x", "y"}, Links: []api.LinkTo{all("a"), some("b", "v", "w")}},
		{Name: "a", Isolated: true, Visible: true},
		{Name: "b"},
	}
	checkSame(t, true, whole, clone(whole))
	checkSame(t, true, nil, []api.Space{})
	checkSame(t, true, named("a"), []api.Space{{Name: "a", Search: []string{}, Permitted: []string{}, Allowed: []string{}, Links: []api.LinkTo{}}})
	checkSame(t, true, []api.Space{first(api.LinkTo{To: "a"})}, []api.Space{first(api.LinkTo{To: "a", Libs: []string{}})})
	checkSame(t, true, whole[:1], clone(whole[:1]))
	checkSame(t, true, []api.Space{{Search: []string{"", "/"}, Links: make([]api.LinkTo, 40)}, {}}, []api.Space{{Search: []string{"", "/"}, Links: make([]api.LinkTo, 40)}, {}})
	for i, change := range []func(l []api.Space) []api.Space{
		func(l []api.Space) []api.Space { return nil },
		func(l []api.Space) []api.Space { return l[:2] },
		func(l []api.Space) []api.Space { return append(l, api.Space{}) },
		func(l []api.Space) []api.Space { return append(l, l[2]) },
		func(l []api.Space) []api.Space { l[1], l[2] = l[2], l[1]; return l },
		func(l []api.Space) []api.Space { l[0].Name = "defaul"; return l },
		func(l []api.Space) []api.Space { l[2].Name = ""; return l },
		func(l []api.Space) []api.Space { l[0].Isolated = true; return l },
		func(l []api.Space) []api.Space { l[1].Isolated = false; return l },
		func(l []api.Space) []api.Space { l[0].Visible = true; return l },
		func(l []api.Space) []api.Space { l[1].Visible = false; return l },
		func(l []api.Space) []api.Space { l[0].Search[1] = "/c"; return l },
		func(l []api.Space) []api.Space { l[0].Search = l[0].Search[:1]; return l },
		func(l []api.Space) []api.Space { slices.Reverse(l[0].Search); return l },
		func(l []api.Space) []api.Space { l[2].Search = []string{""}; return l },
		func(l []api.Space) []api.Space { l[0].Search, l[0].Permitted = l[0].Permitted, l[0].Search; return l },
		func(l []api.Space) []api.Space { l[0].Permitted[0] = ""; return l },
		func(l []api.Space) []api.Space { l[0].Permitted = nil; return l },
		func(l []api.Space) []api.Space { l[2].Permitted = []string{"/"}; return l },
		func(l []api.Space) []api.Space { l[0].Allowed[0] = "z"; return l },
		func(l []api.Space) []api.Space { l[0].Allowed = append(l[0].Allowed, "z"); return l },
		func(l []api.Space) []api.Space { l[1].Allowed = []string{"x"}; return l },
		func(l []api.Space) []api.Space { l[0].Links = nil; return l },
		func(l []api.Space) []api.Space { l[0].Links = l[0].Links[:1]; return l },
		func(l []api.Space) []api.Space { slices.Reverse(l[0].Links); return l },
		func(l []api.Space) []api.Space { l[2].Links = []api.LinkTo{{}}; return l },
		func(l []api.Space) []api.Space { l[0].Links[0].To = "b"; return l },
		func(l []api.Space) []api.Space { l[0].Links[0].All = false; return l },
		func(l []api.Space) []api.Space { l[0].Links[1].All = true; return l },
		func(l []api.Space) []api.Space { l[0].Links[1].Libs[1] = "x"; return l },
		func(l []api.Space) []api.Space { l[0].Links[1].Libs = l[0].Links[1].Libs[:1]; return l },
		func(l []api.Space) []api.Space { l[0].Links[0].Libs = []string{""}; return l },
	} {
		if changed := change(clone(whole)); nsconf.Same(whole, changed) || nsconf.Same(changed, whole) {
			t.Errorf("change %d isn't told: %s", i, show(changed))
		}
	}
}
