package nsconf_test

import (
	"math"
	"slices"
	"strings"
	"testing"

	"messuage/api"
	"messuage/conf"
	"messuage/nsconf"
)

// part: a part of a configuration: names, and a value behind each.
func part(l ...string) conf.Section {
	s := conf.Section{Name: "a"}
	for i := 0; i < len(l); i += 2 {
		s.Props = append(s.Props, conf.Prop{Name: l[i], Value: l[i+1], Line: i/2 + 1})
	}
	return s
}

// checkAnswer: so answers Build, and the part is as it was.
func checkAnswer(t *testing.T, sec conf.Section, level int, want []api.Space, wantErr api.Errno) {
	t.Helper()
	held := slices.Clone(sec.Props)
	if l, e := nsconf.Build(sec, level); show(l) != show(want) || e != wantErr {
		t.Errorf("Build(%v, %d): %s, %v, not %s, %v", sec, level, show(l), e, show(want), wantErr)
	}
	if !slices.Equal(sec.Props, held) {
		t.Errorf("%v is %v now", held, sec.Props)
	}
}

// checkBuild: these namespaces are built, and may be.
func checkBuild(t *testing.T, sec conf.Section, level int, want []api.Space) {
	t.Helper()
	checkAnswer(t, sec, level, want, api.OK)
	if l, _ := nsconf.Build(sec, level); !nsconf.Right(l) || !nsconf.Same(l, want) {
		t.Errorf("%s is built, and may not be", show(l))
	}
}

// checkWrong: nothing is built of what these say.
func checkWrong(t *testing.T, want api.Errno, l ...string) {
	t.Helper()
	checkAnswer(t, part(l...), 29, nil, want)
}

// checkFirst: these say one namespace, which is so.
func checkFirst(t *testing.T, want api.Space, l ...string) {
	t.Helper()
	want.Name = "default"
	checkBuild(t, part(l...), 29, []api.Space{want})
}

const (
	more = "additional.namespaces"
	n    = "namespace.default."
	toB  = n + "link.b."
)

// linked: what says a second namespace, b, to which there is a link, and more.
func linked(l ...string) []string { return append([]string{more, "b", n + "links", "b"}, l...) }

// checkLinked: these say such a link.
func checkLinked(t *testing.T, want api.LinkTo, l ...string) {
	t.Helper()
	want.To = "b"
	checkBuild(t, part(linked(l...)...), 29, []api.Space{first(want), {Name: "b"}})
}

// P19.2: what isn't told isn't so.
func TestBuildNothing(t *testing.T) {
	checkBuild(t, conf.Section{}, 0, named("default"))
	checkBuild(t, part(), -1, named("default"))
	checkFirst(t, api.Space{}, more, "", n+"isolated", "false", n+"visible", "false", n+"search.paths", "", n+"permitted.paths", "", n+"allowed_libs", "", n+"links", "")
	checkFirst(t, api.Space{}, more, " ,\t,", n+"search.paths", ":::", n+"permitted.paths", ":", n+"allowed_libs", "::", n+"links", ", ,,")
}

// P19.2: each property by itself.
func TestBuildOne(t *testing.T) {
	checkFirst(t, api.Space{Isolated: true}, n+"isolated", "true")
	checkFirst(t, api.Space{Visible: true}, n+"visible", "true")
	checkFirst(t, api.Space{Search: []string{"/a"}}, n+"search.paths", "/a")
	checkFirst(t, api.Space{Permitted: []string{"/a"}}, n+"permitted.paths", "/a")
	checkFirst(t, api.Space{Allowed: []string{"a"}}, n+"allowed_libs", "a")
	checkBuild(t, part(more, "b"), 1, named("default", "b"))
	checkLinked(t, all("b"), toB+"allow_all_shared_libs", "true")
	checkLinked(t, some("b", "x"), toB+"shared_libs", "x")
	// In whichever order the properties are told.
	checkBuild(t, part(toB+"shared_libs", "y:x", "namespace.b.visible", "true", n+"links", "b", n+"search.paths", "/b:/a", n+"isolated", "true", more, "b"), 1, []api.Space{
		{Name: "default", Isolated: true, Search: []string{"/b", "/a"}, Links: []api.LinkTo{some("b", "y", "x")}},
		{Name: "b", Visible: true},
	})
}

// P19.2: of each namespace all.
func TestBuildMany(t *testing.T) {
	var l []string
	var want []api.Space
	names := []string{"default", "z", "b_9", "a"}
	for i, name := range names {
		to, other := names[(i+1)%4], names[(i+2)%4]
		ahead := "namespace." + name + "."
		l = append(l, ahead+"isolated", "true", ahead+"visible", "true",
			ahead+"search.paths", "/s/"+name+":/s", ahead+"permitted.paths", "/p/"+name+":/p:/x.apk!/"+name, ahead+"allowed_libs", name+":x.so",
			ahead+"links", to+","+other,
			ahead+"link."+to+".shared_libs", name+":"+to, ahead+"link."+other+".allow_all_shared_libs", "true")
		want = append(want, api.Space{
			Name: name, Isolated: true, Visible: true,
			Search: []string{"/s/" + name, "/s"}, Permitted: []string{"/p/" + name, "/p", "/x.apk!/" + name}, Allowed: []string{name, "x.so"},
			Links: []api.LinkTo{some(to, name, to), all(other)},
		})
	}
	checkBuild(t, part(append(l, more, "z,b_9,a")...), 1, want)
	checkBuild(t, part(append([]string{more, "z,b_9,a"}, l...)...), 1, want)
}

// P19.2: the names of namespaces.
func TestBuildNames(t *testing.T) {
	for _, c := range []struct {
		value string
		want  []string
	}{
		{"", nil},
		{"a", []string{"a"}},
		{"a,b", []string{"a", "b"}},
		{"b,a", []string{"b", "a"}},
		{" a ,\tb\t", []string{"a", "b"}},
		{"a , \t b", []string{"a", "b"}},
		{",a,,b,", []string{"a", "b"}},
		{" ,a, \t ,b,\t", []string{"a", "b"}},
		{"a${LEVEL}", []string{"a29"}},
		{"${LIB}", []string{"lib64"}},
		{strings.Repeat("a", 64), []string{strings.Repeat("a", 64)}},
		{strings.Join(numbered(15, "a"), ","), numbered(15, "a")},
		{strings.Join(numbered(15, "a"), " , ,\t,"), numbered(15, "a")},
	} {
		checkBuild(t, part(more, c.value), 29, named(append([]string{"default"}, c.want...)...))
	}
	for _, value := range []string{"a,a", "a,b,a", "a, a", "default", "a,default", "A", "a,B", "_a", "9", "a b", "a.b", "a:b", "a\r", "\ra", "\n", "a\n,b", "\xa0", "é", "a${LEVEL},a29", strings.Repeat("a", 65), "a,$", strings.Join(numbered(14, "a"), ",") + ",a0"} {
		checkWrong(t, api.ErrNsName, more, value)
	}
	for _, value := range []string{"${X}", "${", "a,b${LEVEL", "${lib}", "$${}", "${LIB,a}", strings.Repeat("A,", 40) + "${"} {
		checkWrong(t, api.ErrValue, more, value)
	}
	for _, value := range []string{strings.Join(numbered(16, "a"), ","), strings.Join(numbered(9000, "a"), ","), strings.Repeat("a,", 16), strings.Repeat("A,", 16), "default," + strings.Join(numbered(15, "a"), ",")} {
		checkWrong(t, api.ErrNsMany, more, value)
	}
}

// P19.2: what is so, or isn't, by those two words alone.
func TestBuildFlags(t *testing.T) {
	for _, word := range []string{"", "yes", "True", "TRUE", "1", "0", "true ", " true", "false ", "\tfalse", "true:", "true,", "truefalse", "tru", "truee", "false,true", "${LIB}", "${LEVEL}", "${X}", "${", "$true", "\x00", "no", "False"} {
		checkWrong(t, api.ErrValue, n+"isolated", word)
		checkWrong(t, api.ErrValue, n+"visible", word)
		checkWrong(t, api.ErrValue, linked(toB+"allow_all_shared_libs", word)...)
		checkWrong(t, api.ErrValue, linked(toB+"allow_all_shared_libs", word, toB+"shared_libs", "x")...)
		checkWrong(t, api.ErrValue, more, "b", "namespace.b.visible", word)
	}
	checkFirst(t, api.Space{Isolated: true}, n+"isolated", "true", n+"visible", "false")
	checkFirst(t, api.Space{Visible: true}, n+"isolated", "false", n+"visible", "true")
	checkFirst(t, api.Space{Isolated: true, Visible: true}, n+"visible", "true", n+"isolated", "true")
}

// P19.2: lists with : between.
func TestBuildLists(t *testing.T) {
	folders := map[string][]string{
		"/a:/b":                              {"/a", "/b"},
		"/b:/a:/b":                           {"/b", "/a", "/b"},
		":/a::/b:":                           {"/a", "/b"},
		"/":                                  {"/"},
		"/${LIB}/${LEVEL}":                   {"/lib64/29"},
		"/x.apk!/${LIB}":                     {"/x.apk!/lib64"},
		"/x!/":                               {"/x!/"},
		strings.Join(numbered(32, "/"), ":"): numbered(32, "/"),
		":" + strings.Join(numbered(32, "/"), "::") + ":": numbered(32, "/"),
	}
	for value, want := range folders {
		checkFirst(t, api.Space{Search: want}, n+"search.paths", value)
		checkFirst(t, api.Space{Permitted: want}, n+"permitted.paths", value)
	}
	// The members of such a list are those of layer 4: blanks at their ends count.
	for _, value := range []string{"a", "/a:b", "/a/", "/a:/b/..", " /a", "/a ", "/a: /b", "/a :/b", "/a:\t:/b", "/a:\t", " ", "/a,/b", "/a#", "/a=b", "/$", "/a$LIB", "/${X}", "/${LIB", "/a\xff", strings.Join(numbered(33, "/"), ":")} {
		for _, property := range []string{"search.paths", "permitted.paths"} {
			checkWrong(t, api.ErrValue, n+property, value)
			checkWrong(t, api.ErrValue, more, "b", "namespace.b."+property, value)
		}
	}
	libs := map[string][]string{
		"a:b":                                {"a", "b"},
		"b:a":                                {"b", "a"},
		":a::b:":                             {"a", "b"},
		"${LIB}.so":                          {"lib64.so"},
		"liba${LEVEL}.so:libb.so":            {"liba29.so", "libb.so"},
		strings.Join(numbered(32, "a"), ":"): numbered(32, "a"),
	}
	for value, want := range libs {
		checkFirst(t, api.Space{Allowed: want}, n+"allowed_libs", value)
		checkLinked(t, some("b", want...), toB+"shared_libs", value)
		checkLinked(t, some("b", want...), toB+"shared_libs", value, toB+"allow_all_shared_libs", "false")
	}
	for _, value := range []string{"/", "/a", "a:/b", "a b", " a", "a ", "a: b", "a :b", "\t", "a:\t:b", "a,b", "a#", "=", "a$", "${X}", "${LIB", "a:a", "a:b:a", "a29:a${LEVEL}", "\x7f", "é", strings.Repeat("a", 65), strings.Join(numbered(33, "a"), ":")} {
		checkWrong(t, api.ErrValue, n+"allowed_libs", value)
		checkWrong(t, api.ErrValue, linked(toB+"shared_libs", value)...)
	}
}

// P19.2: what a link lets through: all or some, told of one of the two alone.
func TestBuildLinks(t *testing.T) {
	const allow, libs = toB + "allow_all_shared_libs", toB + "shared_libs"
	checkLinked(t, all("b"), allow, "true")
	checkLinked(t, some("b", "x"), libs, "x")
	checkLinked(t, some("b", "x"), libs, "x", allow, "false")
	for _, l := range [][]string{
		{}, {allow, "false"}, {libs, ""}, {libs, ":"}, {libs, "::"}, {libs, "", allow, "false"},
		{libs, "", allow, "true"}, {libs, ":", allow, "true"}, {libs, "x", allow, "true"}, {allow, "true", libs, "x:y"}, {libs, "/", allow, "true"}, {libs, "${", allow, "true"},
	} {
		checkWrong(t, api.ErrValue, linked(l...)...)
	}
	both := []string{more, "b,c", "namespace.default.link.b.shared_libs", "x", "namespace.default.link.c.allow_all_shared_libs", "true"}
	for _, c := range []struct {
		value string
		links []api.LinkTo
	}{
		{"b,c", []api.LinkTo{some("b", "x"), all("c")}},
		{"c,b", []api.LinkTo{all("c"), some("b", "x")}},
		{" b\t,,\tc ", []api.LinkTo{some("b", "x"), all("c")}},
		{", ,b, , c,", []api.LinkTo{some("b", "x"), all("c")}},
	} {
		checkBuild(t, part(append(both, n+"links", c.value)...), 1, append([]api.Space{first(c.links...)}, named("b", "c")...))
	}
	for _, c := range []struct {
		value string
		want  api.Errno
	}{
		{"b", api.ErrProperty}, // that of c isn't asked for
		{"b,c,b", api.ErrLinks},
		{"b,b", api.ErrLinks},
		{"b , b", api.ErrLinks},
		{"c,b,c", api.ErrLinks},
		{"b,c,default", api.ErrValue}, // nothing is told of that link
		{"b,c,d", api.ErrValue},
		{"b,c,B", api.ErrValue},
		{"b:c", api.ErrValue},
		{"b c", api.ErrValue},
		{"b\r,c", api.ErrValue},
		{"${X}", api.ErrValue},
		{"b,c,${", api.ErrValue},
	} {
		checkWrong(t, c.want, append(both, n+"links", c.value)...)
	}
	for _, to := range []string{"d", "B", "b.", "9", "a b", "link", strings.Repeat("b", 65), "é", "b:c"} {
		checkWrong(t, api.ErrNoNs, append(both, n+"links", "b,c,"+to, n+"link."+to+".allow_all_shared_libs", "true")...)
		checkWrong(t, api.ErrNoNs, append(both, n+"links", to, n+"link."+to+".shared_libs", "x")...)
	}
	checkWrong(t, api.ErrLinks, append(both, n+"links", "default", n+"link.default.shared_libs", "x")...)
	checkWrong(t, api.ErrLinks, append(both, n+"links", "b,c,default", n+"link.default.allow_all_shared_libs", "true")...)
	checkWrong(t, api.ErrLinks, append(both, n+"links", "b,c", "namespace.b.links", "b", "namespace.b.link.b.shared_libs", "x")...)
}

// P19.2: links and namespaces named by placeholders; properties' names have none.
func TestBuildPlaceholders(t *testing.T) {
	checkBuild(t, part(more, "b${LEVEL},${LIB}", n+"links", "b${LEVEL},${LIB}", n+"link.b7.shared_libs", "${LIB}:x", n+"link.lib64.allow_all_shared_libs", "true", "namespace.lib64.visible", "true"), 7, []api.Space{
		first(some("b7", "lib64", "x"), all("lib64")),
		{Name: "b7"},
		{Name: "lib64", Visible: true},
	})
	checkAnswer(t, part(more, "b${LEVEL}", "namespace.b${LEVEL}.visible", "true"), 7, nil, api.ErrProperty)
	checkAnswer(t, part(more, "b${LEVEL}", n+"links", "b${LEVEL}", n+"link.b${LEVEL}.shared_libs", "x"), 7, nil, api.ErrValue)
}

// P19.2: more links than a namespace may have.
func TestBuildManyLinks(t *testing.T) {
	for _, most := range []int{14, 15} {
		names := numbered(15, "a")
		l := []string{more, strings.Join(names, ","), n + "links", strings.Join(names[:most], ",")}
		for _, to := range names[:most] {
			l = append(l, n+"link."+to+".allow_all_shared_libs", "true")
		}
		checkBuild(t, part(l...), 1, append([]api.Space{first(many(most, "a")...)}, named(names...)...))
		for _, another := range []string{"a0", "default", "a13"} {
			l[3] = strings.Join(names[:most], ",") + "," + another
			checkWrong(t, api.ErrLinks, append(l, n+"link.default.shared_libs", "x")...)
		}
		l[3] = strings.Join(names[:most], ",") + ",b"
		checkWrong(t, api.ErrNoNs, append(l, n+"link.b.shared_libs", "x")...)
	}
	checkWrong(t, api.ErrLinks, more, "b", n+"links", strings.Repeat("b,", 20000), toB+"shared_libs", "x")
}

// P19.2: properties that no namespace asks for.
func TestBuildProperties(t *testing.T) {
	for _, name := range []string{"", "x", "additional.namespace", "additional.namespaces.", "Additional.namespaces", "namespace.default", "namespace.default.", "namespace..isolated", n + "isolate", n + "isolated.", n + "Visible", n + "search.path", n + "search.paths.", n + "asan.search.paths", n + "allowed_lib", n + "whitelisted", n + "link", n + "link.", n + "links.", n + "link.b", n + "link.b.", toB + "shared_lib", toB + "links", toB + "isolated", toB + "allow_all_shared_libs", toB + "shared_libs", "namespace.b.visible", "namespace.b.links", " " + n + "isolated", n + "${LIB}", "isolated", "\xff"} {
		checkWrong(t, api.ErrProperty, name, "true")
		checkWrong(t, api.ErrProperty, name, "")
		checkWrong(t, api.ErrProperty, name, "${")
		checkWrong(t, api.ErrProperty, n+"isolated", "true", name, "x", n+"visible", "true")
	}
	// A link that isn't told, though both namespaces are there.
	checkWrong(t, api.ErrProperty, more, "b", toB+"shared_libs", "x")
	checkWrong(t, api.ErrProperty, more, "b", n+"links", "", toB+"allow_all_shared_libs", "true")
	checkWrong(t, api.ErrProperty, linked(toB+"shared_libs", "x", "namespace.b.link.default.shared_libs", "x")...)
	checkWrong(t, api.ErrProperty, linked(toB+"shared_libs", "x", n+"link.default.shared_libs", "x")...)
	// Of a name that is told twice the first value counts, and both were asked for.
	checkFirst(t, api.Space{Isolated: true}, n+"isolated", "true", n+"isolated", "${")
	checkWrong(t, api.ErrValue, n+"isolated", "${", n+"isolated", "true")
	checkBuild(t, conf.Section{Props: part(n+"visible", "true", "x", "1").Props[:1]}, 1, []api.Space{{Name: "default", Visible: true}})
}

// P19.2: levels of any numbers.
func TestBuildLevels(t *testing.T) {
	sec := part(more, "a${LEVEL}", n+"search.paths", "/${LEVEL}", n+"permitted.paths", "/${LEVEL}${LEVEL}", n+"allowed_libs", "${LEVEL}")
	for level, text := range map[int]string{29: "29", 0: "0", 1: "1", -1: "0", math.MinInt: "0", math.MaxInt: "9223372036854775807"} {
		checkBuild(t, sec, level, []api.Space{
			{Name: "default", Search: []string{"/" + text}, Permitted: []string{"/" + text + text}, Allowed: []string{text}},
			{Name: "a" + text},
		})
	}
}

// P19.2, P1: of two faults the first one in the chapter's order counts.
func TestBuildOrder(t *testing.T) {
	const name, links = "namespace.b.", n + "links"
	// fault is what is told, and the error that stands for it; each stands ahead of all below.
	faults := []struct {
		value []string
		want  api.Errno
	}{
		{[]string{more, "${"}, api.ErrValue},
		{[]string{more, strings.Repeat("A,", 16)}, api.ErrNsMany},
		{[]string{more, "b,c,B"}, api.ErrNsName},
		{[]string{n + "isolated", "x"}, api.ErrValue},
		{[]string{links, "d", n + "link.d.shared_libs", "x"}, api.ErrNoNs},
		{[]string{name + "links", "b", name + "link.b.shared_libs", "x"}, api.ErrLinks},
		{[]string{"namespace.c.visible", "x"}, api.ErrValue},
		{[]string{"x", "x"}, api.ErrProperty},
	}
	for i, a := range faults {
		checkWrong(t, a.want, append(slices.Clone(a.value), more, "b,c")...)
		for _, b := range faults[i+1:] {
			checkWrong(t, a.want, append(append(slices.Clone(a.value), b.value...), more, "b,c")...)
			if b.value[0] != more {
				checkWrong(t, a.want, append(append(slices.Clone(b.value), a.value...), more, "b,c")...)
			}
		}
	}
}

// P19.2: within a namespace what is told of it is looked over ahead of its links, and one link after the other.
func TestBuildOrderOfLinks(t *testing.T) {
	libs := func(name, to string) []string {
		return []string{"namespace." + name + ".link." + to + ".shared_libs", "x"}
	}
	for _, c := range []struct {
		l    []string
		want api.Errno
	}{
		{append(libs("default", "d"), n+"links", "d", n+"visible", "x"), api.ErrValue},
		{append(libs("default", "d"), n+"links", "d", n+"search.paths", "x"), api.ErrValue},
		{append(libs("default", "d"), n+"links", "d", n+"permitted.paths", "x"), api.ErrValue},
		{append(libs("default", "d"), n+"links", "d", n+"allowed_libs", "/"), api.ErrValue},
		{append(libs("default", "default"), n+"links", "default", n+"allowed_libs", "/"), api.ErrValue},
		{append(libs("default", "d"), n+"links", "d,${"), api.ErrValue},
		{append(libs("default", "d"), n+"links", "b,d"), api.ErrValue},
		{append(libs("default", "d"), n+"links", "d,b"), api.ErrNoNs},
		{append(append(libs("default", "d"), libs("default", "default")...), n+"links", "d,default"), api.ErrNoNs},
		{append(append(libs("default", "d"), libs("default", "default")...), n+"links", "default,d"), api.ErrLinks},
		{append(libs("default", "b"), n+"links", "b,b,c"), api.ErrLinks},
		{append(libs("default", "b"), n+"links", "b,c,b"), api.ErrValue},
		{append(libs("default", "d"), n+"links", "d", n+"link.d.allow_all_shared_libs", "true"), api.ErrValue},
		{append(libs("default", "d"), n+"links", "d", "namespace.b.isolated", "x"), api.ErrNoNs},
		{append(libs("default", "default"), n+"links", "default", "namespace.b.search.paths", "x"), api.ErrLinks},
		{append(append(libs("b", "d"), libs("c", "c")...), "namespace.b.links", "d", "namespace.c.links", "c"), api.ErrNoNs},
		{append(append(libs("c", "d"), libs("b", "b")...), "namespace.c.links", "d", "namespace.b.links", "b"), api.ErrLinks},
		{append(libs("default", "b"), n+"links", "b", n+"link.c.shared_libs", "x", "namespace.b.visible", "x"), api.ErrValue},
		{append(libs("default", "b"), n+"links", "b", n+"link.c.shared_libs", "x"), api.ErrProperty},
	} {
		checkWrong(t, c.want, append(c.l, more, "b,c")...)
	}
}

// P19.2, rule 5: what is answered shares nothing with what is answered else, nor do its lists with each other.
func TestBuildMemory(t *testing.T) {
	sec := part(more, "b,c", n+"search.paths", "/a:/b", n+"permitted.paths", "/a:/b:/c", n+"allowed_libs", "x:y", n+"links", "b,c", n+"link.b.shared_libs", "x:y:z", n+"link.c.shared_libs", "x", "namespace.b.search.paths", "/a:/b", "namespace.b.links", "c", "namespace.b.link.c.shared_libs", "x:y")
	whole, e := nsconf.Build(sec, 1)
	if e != api.OK {
		t.Fatal(e)
	}
	want := show(whole)
	for i := range whole {
		l, _ := nsconf.Build(sec, 1)
		s := &l[i]
		lists := []*[]string{&s.Search, &s.Permitted, &s.Allowed}
		for k := range s.Links {
			lists = append(lists, &s.Links[k].Libs)
		}
		for _, p := range lists {
			held, full := *p, (*p)[:cap(*p)]
			old := slices.Clone(full)
			*p = nil
			before := show(l)
			for k := range full {
				full[k] = "changed"
			}
			if after := show(l); after != before {
				t.Errorf("%s is %s now", before, after)
			}
			copy(full, old)
			*p = held
		}
		full := s.Links[:cap(s.Links)]
		clear(full[len(s.Links):])
		if show(l) != want {
			t.Errorf("%s is %s now", want, show(l))
		}
		clear(l[:cap(l)])
	}
	if show(whole) != want {
		t.Errorf("%s is %s now", want, show(whole))
	}
}
