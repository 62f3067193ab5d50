package nsconf_test

import (
	"strings"
	"testing"

	"messuage/api"
	"messuage/conf"
	"messuage/nsconf"
)

// checkWrite: so these namespaces are written; and read, chosen and built they are the same again.
func checkWrite(t *testing.T, l []api.Space, want string) {
	t.Helper()
	held := show(l)
	text, e := nsconf.Write(l)
	if text != want || e != api.OK {
		t.Errorf("Write(%s): %q, %v, not %q", held, text, e, want)
	}
	if show(l) != held {
		t.Errorf("%s is %s now", held, show(l))
	}
	checkAgain(t, l)
}

// checkAgain: what is written of these namespaces says them, to any program and with any level.
func checkAgain(t *testing.T, l []api.Space) {
	t.Helper()
	text, e := nsconf.Write(l)
	f, line, g := conf.Parse(text)
	if e != api.OK || g != api.OK {
		t.Fatalf("Write(%s): %q, %v; Parse: %d, %v", show(l), text, e, line, g)
	}
	for i, program := range []string{"/", "/a", "/system/bin/app", "/..", "//x/"} {
		sec, e := conf.Choose(f, program)
		if e != api.OK || sec.Name != "all" {
			t.Errorf("Choose(%q): %v, %v", program, sec, e)
		}
		checkBuild(t, sec, i*1000-1, l)
	}
}

const ahead = "dir.all = /\n[all]\n"

// P19.3, P19.4: just what says something is written.
func TestWrite(t *testing.T) {
	checkWrite(t, named("default"), ahead)
	checkWrite(t, named("default", "a"), ahead+"additional.namespaces = a\n")
	checkWrite(t, named("default", "z", "a", "b_9"), ahead+"additional.namespaces = z,a,b_9\n")
	checkWrite(t, []api.Space{{Name: "default", Search: []string{}, Permitted: []string{}, Allowed: []string{}, Links: []api.LinkTo{}}}, ahead)
	checkWrite(t, []api.Space{{Name: "default", Isolated: true}}, ahead+n+"isolated = true\n")
	checkWrite(t, []api.Space{{Name: "default", Visible: true}}, ahead+n+"visible = true\n")
	checkWrite(t, []api.Space{{Name: "default", Search: []string{"/b", "/a", "/b"}}}, ahead+n+"search.paths = /b:/a:/b\n")
	checkWrite(t, []api.Space{{Name: "default", Permitted: []string{"/", "/x.apk!/", "/x.apk!/a"}}}, ahead+n+"permitted.paths = /:/x.apk!/:/x.apk!/a\n")
	checkWrite(t, []api.Space{{Name: "default", Allowed: []string{"b", "a"}}}, ahead+n+"allowed_libs = b:a\n")
	checkWrite(t, append([]api.Space{first(all("b"))}, named("b")...), ahead+"additional.namespaces = b\n"+n+"links = b\n"+toB+"allow_all_shared_libs = true\n")
	checkWrite(t, append([]api.Space{first(some("b", "y", "x"))}, named("b")...), ahead+"additional.namespaces = b\n"+n+"links = b\n"+toB+"shared_libs = y:x\n")
}

// P19.3, P19.4: the order of what is written.
func TestWriteOrder(t *testing.T) {
	checkWrite(t, []api.Space{
		{Name: "default", Isolated: true, Visible: true, Search: []string{"/a"}, Permitted: []string{"/b", "/c"}, Allowed: []string{"x"}, Links: []api.LinkTo{some("z", "x", "y"), all("a")}},
		{Name: "z", Isolated: true, Links: []api.LinkTo{all("default")}},
		{Name: "a", Visible: true, Allowed: []string{"+", "[x]", "}"}, Links: []api.LinkTo{some("z", "v"), some("default", "w")}},
	}, ahead+`additional.namespaces = z,a
namespace.default.isolated = true
namespace.default.visible = true
namespace.default.search.paths = /a
namespace.default.permitted.paths = /b:/c
namespace.default.allowed_libs = x
namespace.default.links = z,a
namespace.default.link.z.shared_libs = x:y
namespace.default.link.a.allow_all_shared_libs = true
namespace.z.isolated = true
namespace.z.links = default
namespace.z.link.default.allow_all_shared_libs = true
namespace.a.visible = true
namespace.a.allowed_libs = +:[x]:}
namespace.a.links = z,default
namespace.a.link.z.shared_libs = v
namespace.a.link.default.shared_libs = w
`)
}

// filled: namespaces of which just so many bytes are written.
func filled(t *testing.T, size int) []api.Space {
	t.Helper()
	l := named(append([]string{"default"}, numbered(15, "a")...)...)
	left := size - len(ahead) - len("additional.namespaces = ") - len(strings.Join(numbered(15, "a"), ",")+"\n")
	for i := 0; left > 0; i++ {
		s := &l[i]
		left -= len("namespace." + s.Name + ".search.paths = \n")
		for left > 0 && len(s.Search) < 32 {
			// Each folder but a namespace's first one has a : ahead.
			sign := min(len(s.Search), 1)
			many := min(255, left-1-sign)
			if rest := left - many - 1 - sign; rest > 0 && rest < 100 {
				many -= 100
			}
			s.Search = append(s.Search, "/"+strings.Repeat("a", many))
			left -= many + 1 + sign
		}
	}
	if left != 0 {
		t.Fatal(left, "bytes are left")
	}
	return l
}

// P19.3: texts of MaxText bytes, and of one more.
func TestWriteLength(t *testing.T) {
	for _, size := range []int{1000, 16000, 16382, 16383, 16384} {
		l := filled(t, size)
		if text, e := nsconf.Write(l); len(text) != size || e != api.OK {
			t.Errorf("%d bytes, not %d, %v", len(text), size, e)
		}
		checkAgain(t, l)
	}
	for _, size := range []int{16385, 16386, 17000, 60000} {
		if text, e := nsconf.Write(filled(t, size)); text != "" || e != api.ErrBig {
			t.Errorf("%d bytes of %d, %v", len(text), size, e)
		}
	}
	wrong := filled(t, 60000)
	wrong[15].Allowed = []string{"/"}
	if text, e := nsconf.Write(wrong); text != "" || e != api.ErrValue {
		t.Errorf("%q, %v", text, e)
	}
}

// P19.4: what is longest in each place.
func TestWriteLongest(t *testing.T) {
	name, other := strings.Repeat("a", 64), strings.Repeat("b", 64)
	lib, folder := strings.Repeat("~", 64), "/"+strings.Repeat("!", 255)
	checkAgain(t, []api.Space{
		{Name: "default", Links: []api.LinkTo{all(name), some(other, lib)}},
		{Name: name, Isolated: true, Visible: true, Search: []string{folder, folder + "!/" + folder[1:]}, Permitted: []string{folder}, Allowed: []string{lib}, Links: []api.LinkTo{some(other, lib, "x"), all("default")}},
		{Name: other, Links: []api.LinkTo{all(name), all("default")}},
	})
	checkAgain(t, []api.Space{{Name: "default", Search: numbered(32, "/a"), Permitted: numbered(32, "/x.apk!/a"), Allowed: numbered(32, "a")}})
}
