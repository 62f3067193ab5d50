package nsconf_test

import (
	gopath "path"
	"regexp"
	"slices"
	"strconv"
	"strings"
	"testing"

	"messuage/api"
	"messuage/conf"
	"messuage/nsconf"
	"messuage/rows"
)

// The model tells by patterns what names and signs may be.
var (
	spaceName = regexp.MustCompile(`^[a-z][a-z0-9_]{0,63}$`)
	libName   = regexp.MustCompile(`^[!-~]{1,64}$`)
	noLib     = regexp.MustCompile(`[/:,#=$]`)
	noFolder  = regexp.MustCompile(`[:,#=$]`)
	cleanable = regexp.MustCompile(`^/[!-~]{0,255}$`)
	comma     = regexp.MustCompile(`[ \t]*,[ \t]*`)
	variable  = regexp.MustCompile(`\$\{(LIB|LEVEL)\}`)
)

// mayLibs: may these be names of libraries?
func mayLibs(l []string) bool {
	for i, s := range l {
		if i == 32 || !libName.MatchString(s) || noLib.MatchString(s) || slices.Index(l, s) != i {
			return false
		}
	}
	return true
}

// mayFolders: may these be folders?
func mayFolders(l []string) bool {
	for i, s := range l {
		archive, entry, packed := strings.Cut(s, "!/")
		if i == 32 || noFolder.MatchString(s) || !clean(s) && !(packed && clean(archive) && clean("/"+entry)) {
			return false
		}
	}
	return true
}

// clean: is it a clean path, as Go's own package of paths cleans?
func clean(s string) bool { return cleanable.MatchString(s) && gopath.Clean(s) == s }

// mayLink: may a link be?
func mayLink(l api.LinkTo) bool {
	if !spaceName.MatchString(l.To) || !mayLibs(l.Libs) {
		return false
	}
	if l.All {
		return len(l.Libs) == 0
	}
	return len(l.Libs) > 0
}

// mayParts: may a namespace's parts be?
func mayParts(s api.Space) bool {
	taken := []string{s.Name}
	for _, l := range s.Links {
		if len(taken) == 17 || !mayLink(l) || slices.Contains(taken, l.To) {
			return false
		}
		taken = append(taken, l.To)
	}
	return mayFolders(s.Search) && mayFolders(s.Permitted) && mayLibs(s.Allowed)
}

// maySpaces: may namespaces be?
func maySpaces(l []api.Space) bool {
	var names []string
	for _, s := range l {
		if !spaceName.MatchString(s.Name) || slices.Contains(names, s.Name) || !mayParts(s) {
			return false
		}
		names = append(names, s.Name)
	}
	for _, s := range l {
		for _, k := range s.Links {
			if !slices.Contains(names, k.To) {
				return false
			}
		}
	}
	return len(l) > 0 && len(l) < 17 && l[0].Name == "default"
}

// asker gives the values of properties; it gives up at the first fault, and knows which weren't asked for.
type asker struct {
	values map[string]string
	level  int
	left   map[string]int
}

// value: what a property says, expanded.
func (a *asker) value(name string) (string, bool) {
	delete(a.left, name)
	v, told := a.values[name]
	v = variable.ReplaceAllStringFunc(v, func(s string) string {
		if s == "${LIB}" {
			return "lib64"
		}
		return strconv.Itoa(max(a.level, 0))
	})
	// No value of these tests has a $ that makes a placeholder of what was one.
	if strings.Contains(v, "${") {
		panic(api.ErrValue)
	}
	return v, told
}

// ask: gives up with an error, unless it is so.
func ask(so bool, e api.Errno) {
	if !so {
		panic(e)
	}
}

func (a *asker) flag(name string) bool {
	v, told := a.value(name)
	ask(!told || v == "true" || v == "false", api.ErrValue)
	return v == "true"
}

func (a *asker) list(name string, may func([]string) bool) []string {
	v, _ := a.value(name)
	l := strings.FieldsFunc(v, func(c rune) bool { return c == ':' })
	ask(may(l), api.ErrValue)
	return l
}

func (a *asker) members(name string) []string {
	v, _ := a.value(name)
	var l []string
	for _, one := range comma.Split(strings.Trim(v, " \t"), -1) {
		if one != "" {
			l = append(l, one)
		}
	}
	return l
}

// build: the namespaces that a part says, by the chapter's words, in its order.
func build(sec conf.Section, level int) (l []api.Space, e api.Errno) {
	a := asker{map[string]string{}, level, map[string]int{}}
	for i, p := range slices.Backward(sec.Props) {
		a.values[p.Name], a.left[p.Name] = p.Value, i
	}
	defer func() {
		if fault, ok := recover().(api.Errno); ok {
			l, e = nil, fault
		}
	}()
	names := append([]string{"default"}, a.members("additional.namespaces")...)
	ask(len(names) <= 16, api.ErrNsMany)
	for i, name := range names {
		ask(spaceName.MatchString(name) && slices.Index(names, name) == i, api.ErrNsName)
	}
	for _, name := range names {
		of := "namespace." + name + "."
		s := api.Space{Name: name, Isolated: a.flag(of + "isolated"), Visible: a.flag(of + "visible"), Search: a.list(of+"search.paths", mayFolders), Permitted: a.list(of+"permitted.paths", mayFolders), Allowed: a.list(of+"allowed_libs", mayLibs)}
		taken := []string{name}
		for _, to := range a.members(of + "links") {
			whole := a.flag(of + "link." + to + ".allow_all_shared_libs")
			libs := a.list(of+"link."+to+".shared_libs", mayLibs)
			_, told := a.values[of+"link."+to+".shared_libs"]
			ask(whole != told && (whole || len(libs) > 0), api.ErrValue)
			ask(slices.Contains(names, to), api.ErrNoNs)
			ask(!slices.Contains(taken, to), api.ErrLinks)
			taken = append(taken, to)
			s.Links = append(s.Links, api.LinkTo{To: to, Libs: libs, All: whole})
		}
		l = append(l, s)
	}
	ask(len(a.left) == 0, api.ErrProperty)
	return l, api.OK
}

// write: what says namespaces that may be, by the chapter's words.
func write(l []api.Space) (string, api.Errno) {
	if !maySpaces(l) {
		return "", api.ErrValue
	}
	lines := []string{"dir.all = /", "[all]"}
	so := map[bool]string{true: "true"}
	line := func(name string, between string, values ...string) {
		if value := strings.Join(values, between); value != "" {
			lines = append(lines, name+" = "+value)
		}
	}
	var names []string
	for _, s := range l[1:] {
		names = append(names, s.Name)
	}
	line("additional.namespaces", ",", names...)
	for _, s := range l {
		of := "namespace." + s.Name + "."
		line(of+"isolated", "", so[s.Isolated])
		line(of+"visible", "", so[s.Visible])
		line(of+"search.paths", ":", s.Search...)
		line(of+"permitted.paths", ":", s.Permitted...)
		line(of+"allowed_libs", ":", s.Allowed...)
		var ends []string
		for _, k := range s.Links {
			ends = append(ends, k.To)
		}
		line(of+"links", ",", ends...)
		for _, k := range s.Links {
			line(of+"link."+k.To+".allow_all_shared_libs", "", so[k.All])
			line(of+"link."+k.To+".shared_libs", ":", k.Libs...)
		}
	}
	text := strings.Join(lines, "\n") + "\n"
	if len(text) > 16384 {
		return "", api.ErrBig
	}
	return text, api.OK
}

// anyOf: some of these, each at most once, in any order.
func anyOf(r *rows.Row, l ...string) []string {
	var out []string
	for range r.Below(4) {
		if s := r.Text(l...); !slices.Contains(out, s) {
			out = append(out, s)
		}
	}
	return out
}

// anySpaces: namespaces that may be.
func anySpaces(r *rows.Row) []api.Space {
	names := append([]string{"default"}, anyOf(r, "a", "b", "c_9", "lib64")...)
	var l []api.Space
	for _, name := range names {
		s := api.Space{
			Name: name, Isolated: r.Below(3) == 0, Visible: r.Below(3) == 0,
			Search: anyOf(r, "/", "/a", "/lib64", "/x.apk!/lib", "/x!/"), Permitted: anyOf(r, "/", "/b", "/b/c", "/...!/!"), Allowed: anyOf(r, "x.so", "y.so", "lib64", "+", "false"),
		}
		for _, to := range anyOf(r, names...) {
			if to == name {
				continue
			}
			k := api.LinkTo{To: to, Libs: anyOf(r, "x.so", "y.so", "0", "true")}
			k.All = len(k.Libs) == 0
			s.Links = append(s.Links, k)
		}
		l = append(l, s)
	}
	return l
}

// spoilSpaces: namespaces of which some part is another one.
func spoilSpaces(r *rows.Row, l []api.Space) []api.Space {
	l = clone(l)
	s := &l[r.Below(len(l))]
	name := r.Text("a", "b", "default", "", "A", "z", "lib64", "_", strings.Repeat("a", 64+r.Below(2)))
	member := r.Text("/a", "x.so", "", "/a/", "/a:b", "$", "a b", "/x!//a", "/x!/a", "y.so", "/x/../y!/z", "\xff", "~", strings.Repeat("a", 64+r.Below(2)), "/"+strings.Repeat("b", 255+r.Below(2)))
	switch r.Below(13) {
	case 0:
		s.Name = name
	case 1:
		l = append(l, named(name)...)
	case 2:
		l = slices.Insert(l, 0, named(name)...)
	case 3:
		s.Search = append(s.Search, member)
	case 4:
		s.Permitted = append(s.Permitted, member)
	case 5:
		s.Allowed = append(s.Allowed, member)
	case 6:
		s.Links = append(s.Links, all(name))
	case 7:
		s.Links = append(s.Links, some(name, member))
	case 8:
		if len(s.Links) > 0 {
			s.Links[0].All = !s.Links[0].All
		}
	case 9:
		if len(s.Links) > 0 {
			s.Links[0].Libs = append(s.Links[0].Libs, member)
		}
	case 10:
		l = append(l, named(numbered(10+r.Below(6), "n")...)...)
	case 11:
		s.Links = append(s.Links, many(12+r.Below(6), "n")...)
	case 12:
		s.Search, s.Allowed = append(s.Search, numbered(28+r.Below(6), "/")...), append(s.Allowed, numbered(28+r.Below(6), "n")...)
	}
	return l
}

// props: what says namespaces, with some of it said in other ways.
func props(r *rows.Row, l []api.Space) []conf.Prop {
	text, e := write(l)
	if e != api.OK {
		return nil
	}
	var out []conf.Prop
	for i, line := range strings.Split(strings.TrimSuffix(text, "\n"), "\n")[2:] {
		name, value, _ := strings.Cut(line, " = ")
		if r.Below(3) == 0 {
			value = strings.ReplaceAll(value, "lib64", "${LIB}")
		}
		if r.Below(3) == 0 {
			value = strings.ReplaceAll(value, ":", r.Text("::", ":::"))
		}
		if r.Below(3) == 0 {
			value = strings.ReplaceAll(value, ",", r.Text(" ,", ",\t", " , , ", ",,"))
		}
		out = append(out, conf.Prop{Name: name, Value: value, Line: i})
	}
	return out
}

// spoilProps: properties of which one is another one, more or away.
func spoilProps(r *rows.Row, l []conf.Prop) []conf.Prop {
	value := r.Text("", "true", "false", "a", "b", "c_9", "default", "A", "x.so", "/a", "/a:/b", "x.so:y.so", "x.so:x.so", "${LEVEL}", "${LIB}", "${X}", "${", "d", ",", ":", " ", "/a,/b", "/a : /b", "a,b,c_9,lib64", strings.Join(numbered(14+r.Below(3), "n"), ","))
	if len(l) == 0 || r.Below(3) == 0 {
		name := r.Text("additional.namespaces", "x", "") + r.Text("", ".")
		if r.Below(4) > 0 {
			name = "namespace." + r.Text("default", "a", "b", "c_9", "d") + "." + r.Text("isolated", "visible", "search.paths", "permitted.paths", "allowed_libs", "links", "links", "link.a.shared_libs", "link.b.allow_all_shared_libs", "link.d.shared_libs", "link.default.shared_libs")
		}
		return slices.Insert(l, r.Below(len(l)+1), conf.Prop{Name: name, Value: value})
	}
	p := &l[r.Below(len(l))]
	switch r.Below(8) {
	case 0:
		p.Value = value
	case 1:
		p.Value += ":" + value
	case 2:
		p.Value += "," + value
	case 3:
		p.Name = strings.Replace(p.Name, r.Text("default", "a", ".a.", "b", "shared_libs"), r.Text("a", "b", ".b.", "default", "allow_all_shared_libs"), 1)
	case 4:
		l[0], *p = *p, l[0]
	case 5:
		l = slices.Delete(l, 0, 1)
	case 6:
		p.Value += "," + p.Value
	case 7:
		if p.Name == "additional.namespaces" {
			p.Value += "," + strings.Join(numbered(12+r.Below(4), "n"), ",")
		}
	}
	return l
}

// P19.1, P19.3, P19.4, P1, P2: any namespaces, those that may be and those that may not.
func TestModelSpaces(t *testing.T) {
	r := rows.New(19)
	met := map[api.Errno]int{}
	parts := 0
	for range 10000 {
		l := anySpaces(r)
		for range r.Below(3) {
			l = spoilSpaces(r, l)
		}
		held := show(l)
		for _, s := range l {
			may := mayParts(s)
			if nsconf.Parts(s) != may || nsconf.Libs(s.Allowed) != mayLibs(s.Allowed) || nsconf.Paths(s.Search) != mayFolders(s.Search) || nsconf.Name(s.Name) != spaceName.MatchString(s.Name) {
				t.Errorf("Parts(%s): not %t, or a part of it", show([]api.Space{s}), may)
			}
			if !may {
				parts++
			}
			for _, k := range s.Links {
				if nsconf.Link(k) != mayLink(k) {
					t.Errorf("Link(%v): not %t", k, mayLink(k))
				}
			}
		}
		want, wantErr := write(l)
		for range 2 {
			if text, e := nsconf.Write(l); text != want || e != wantErr || nsconf.Right(l) != (wantErr != api.ErrValue) {
				t.Errorf("Write(%s): %q, %v, not %q, %v", held, text, e, want, wantErr)
			}
		}
		if other := anySpaces(r); !nsconf.Same(l, clone(l)) || nsconf.Same(l, other) != (held == show(other)) {
			t.Errorf("Same of %s, %s", held, show(other))
		}
		if wantErr == api.OK {
			checkAgain(t, l)
		}
		if show(l) != held {
			t.Errorf("%s is %s now", held, show(l))
		}
		met[wantErr]++
	}
	if met[api.OK] < 4000 || met[api.ErrValue] < 4000 || parts < 3000 {
		t.Error(met, parts)
	}
}

// P19.2, P19.4, P1, P2: any parts of configurations, right and wrong ones.
func TestModelBuild(t *testing.T) {
	r := rows.New(1919)
	met := map[api.Errno]int{}
	for range 40000 {
		sec := conf.Section{Name: "a", Props: props(r, anySpaces(r))}
		for range r.Below(4) {
			sec.Props = spoilProps(r, sec.Props)
		}
		level := r.Below(40) - 5
		want, wantErr := build(sec, level)
		checkAnswer(t, sec, level, want, wantErr)
		checkAnswer(t, sec, level, want, wantErr)
		if wantErr == api.OK && !nsconf.Right(want) {
			t.Errorf("%s may not be", show(want))
		}
		met[wantErr]++
	}
	if met[api.OK] < 10000 || met[api.ErrValue] < 8000 || met[api.ErrProperty] < 4000 || met[api.ErrNsName] < 500 || met[api.ErrNsMany] < 100 || met[api.ErrNoNs] < 1000 || met[api.ErrLinks] < 200 {
		t.Error(met)
	}
}

// P19.1, P1: all short texts of some bytes, in each place.
func TestShortTexts(t *testing.T) {
	l := []string{""}
	for from, round := 0, 0; round < 5; round++ {
		upTo := len(l)
		for _, s := range l[from:upTo] {
			for _, one := range []string{"/", "!", ".", "a", ":", "_", "0", " ", "$"} {
				l = append(l, s+one)
			}
		}
		from = upTo
	}
	for _, s := range l {
		one := []string{s}
		if nsconf.Name(s) != spaceName.MatchString(s) || nsconf.Libs(one) != mayLibs(one) || nsconf.Paths(one) != mayFolders(one) {
			t.Errorf("Name, Libs, Paths of %q: %t, %t, %t", s, nsconf.Name(s), nsconf.Libs(one), nsconf.Paths(one))
		}
		ahead := []string{"/" + s}
		if nsconf.Paths(ahead) != mayFolders(ahead) {
			t.Errorf("Paths(%q): %t", ahead, nsconf.Paths(ahead))
		}
	}
}
