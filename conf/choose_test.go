package conf_test

import (
	"math"
	"slices"
	"strconv"
	"strings"
	"testing"

	"messuage/api"
	"messuage/conf"
)

// checkChoose: this is the part for a program; none, if there is an error.
func checkChoose(t *testing.T, f conf.File, program string, want conf.Section, wantErr api.Errno) {
	t.Helper()
	if s, e := conf.Choose(f, program); !sameSection(s, want) || e != wantErr {
		t.Errorf("Choose(%v, %.300q): %v, %v, not %v, %v", f, program, s, e, want, wantErr)
	}
}

// checkNone: there is no part for a program.
func checkNone(t *testing.T, f conf.File, program string, want api.Errno) {
	t.Helper()
	checkChoose(t, f, program, conf.Section{}, want)
}

// read: what a text says that is right.
func read(t *testing.T, text string) conf.File {
	t.Helper()
	f, at, e := conf.Parse(text)
	if e != api.OK {
		t.Fatalf("Parse(%q): %d, %v", text, at, e)
	}
	return f
}

// P18.2: the program's path is cleaned.
func TestChooseCleans(t *testing.T) {
	f := read(t, "dir.a = /system\n[b]\n[a]\nx = 1\n")
	a := part("a", prop("x", "1", 4))
	for _, program := range []string{"/system/bin/app", "/system/a", "/system", "/system/", "//system//a", "/./system/./a", "/system/bin/../a", "/x/../system/a", "/../system", "/system/x/..", "/system/" + strings.Repeat("a", 248), "/system" + strings.Repeat("/", 249)} {
		checkChoose(t, f, program, a, api.OK)
	}
	for _, program := range []string{"/", "/systema", "/system2/a", "/system.a", "/systeM/a", "/x/system/a", "/syste", "/system/..", "/system/../a", "/a", "/.."} {
		checkNone(t, f, program, api.ErrSection)
	}
	for _, program := range []string{"", "system", "system/a", "./system", "../system/a", "a", ".", " /system/a", "/system/a b", "/system/a\n", "/system/\x00", "/system/\x7f", "/system/\xff", "/system/" + strings.Repeat("a", 249), "/system" + strings.Repeat("/", 250), strings.Repeat("/a", 40000)} {
		checkNone(t, f, program, api.ErrPath)
		checkNone(t, conf.File{}, program, api.ErrPath)
		checkNone(t, read(t, "dir.a = /\n[b]"), program, api.ErrPath)
	}
}

// P18.2: the first folder under which the program is decides.
func TestChooseFirst(t *testing.T) {
	const text = "[c]\nx = 3\n[b]\nx = 2\n[a]\nx = 1\n"
	f := read(t, "dir.a = /s/t\ndir.b = /s\ndir.c = /\n"+text)
	c, b, a := f.Sections[0], f.Sections[1], f.Sections[2]
	checkChoose(t, f, "/s/t/app", a, api.OK)
	checkChoose(t, f, "/s/t", a, api.OK)
	checkChoose(t, f, "/s/tt", b, api.OK)
	checkChoose(t, f, "/s/u/app", b, api.OK)
	checkChoose(t, f, "/s", b, api.OK)
	checkChoose(t, f, "/st/t", c, api.OK)
	checkChoose(t, f, "/", c, api.OK)
	checkChoose(t, f, "/..", c, api.OK)
	for _, order := range []struct{ dirs, program, want string }{
		{"dir.a = /s\ndir.b = /s/t\n", "/s/t/app", "a"},
		{"dir.a = /s\ndir.b = /s/t\n", "/s/t", "a"},
		{"dir.b = /s/t\ndir.a = /s\n", "/s/t/app", "b"},
		{"dir.b = /s/t\ndir.a = /s\n", "/s/t", "b"},
		{"dir.b = /s/t\ndir.a = /s\n", "/s/app", "a"},
		{"dir.c = /\ndir.b = /s/t\ndir.a = /s\n", "/s/t/app", "c"},
		{"dir.a = /s\ndir.b = /s\n", "/s", "a"},
		{"dir.b = /s\ndir.a = /s\n", "/s", "b"},
		{"dir.a = /u\ndir.a = /s\ndir.b = /s\n", "/s/app", "a"},
		{"dir.a = /s/app\n", "/s/app", "a"},
		{"dir.a = /s/app\ndir.b = /s\n", "/s/app", "a"},
		{"dir.a = /s/ap\ndir.b = /s\n", "/s/app", "b"},
		{"dir.a = /s/app/x\ndir.b = /s\n", "/s/app", "b"},
	} {
		s, e := conf.Choose(read(t, order.dirs+text), order.program)
		if s.Name != order.want || len(s.Props) != 1 || e != api.OK {
			t.Errorf("Choose(%q, %q): %v, %v", order.dirs, order.program, s, e)
		}
	}
}

// P18.2: no folder, or no part of the name that the first one tells, though another folder's is there.
func TestChooseNone(t *testing.T) {
	checkNone(t, conf.File{}, "/", api.ErrSection)
	checkNone(t, read(t, "[a]\n"), "/a", api.ErrSection)
	checkNone(t, read(t, "dir.a = /"), "/a", api.ErrSection)
	checkNone(t, read(t, "dir.a = /\n[b]"), "/a", api.ErrSection)
	checkNone(t, read(t, "dir.a = /\n[A]\n[aa]\n[dir.a]"), "/a", api.ErrSection)
	f := read(t, "dir.a = /s/t\ndir.b = /s\ndir.c = /\n[b]\n")
	checkNone(t, f, "/s/t/app", api.ErrSection)
	checkNone(t, f, "/s/t", api.ErrSection)
	checkChoose(t, f, "/s/app", part("b"), api.OK)
	checkNone(t, f, "/app", api.ErrSection)
}

// P18.2: configurations that no text says: folders by their bytes, the first part of a name.
func TestChooseAny(t *testing.T) {
	f := conf.File{
		Dirs:     []conf.Prop{prop("no", "s", 0), prop("no", "/s/", -1), prop("no", "//s", 0), prop("", "/s", 0), prop("a", "/", 0)},
		Sections: []conf.Section{part("", prop("", "", 0)), part("", prop("x", "", 0)), part("a", prop("x", "1", 0), prop("x", "2", 0)), part("a"), part("no")},
	}
	checkChoose(t, f, "/s/app", part("", prop("", "", 0)), api.OK)
	checkChoose(t, f, "/t", part("a", prop("x", "1", 0), prop("x", "2", 0)), api.OK)
	checkChoose(t, conf.File{Dirs: f.Dirs, Sections: f.Sections[3:]}, "/t/s", part("a"), api.OK)
	checkNone(t, conf.File{Dirs: f.Dirs, Sections: f.Sections[4:]}, "/t/s", api.ErrSection)
	// Each path begins with the empty folder and a /.
	checkChoose(t, conf.File{Dirs: append([]conf.Prop{prop("no", "", 0)}, f.Dirs...), Sections: f.Sections}, "/s/app", part("no"), api.OK)
}

// P18.2: what is chosen is memory of its own.
func TestChooseMemory(t *testing.T) {
	f := read(t, "dir.a = /\n[a]\nx = 1\ny = 2\n")
	a := part("a", prop("x", "1", 3), prop("y", "2", 4))
	one, _ := conf.Choose(f, "/app")
	one.Props[0] = prop("z", "3", 9)
	_ = append(one.Props[:1], prop("z", "3", 9))
	if !slices.Equal(f.Sections[0].Props, a.Props) {
		t.Error(f)
	}
	checkChoose(t, f, "/app", a, api.OK)
	// What lies behind a list's length isn't handed out.
	short := conf.File{Dirs: f.Dirs, Sections: []conf.Section{part("a", f.Sections[0].Props[:1]...), part("b")}[:1]}
	s, _ := conf.Choose(short, "/app")
	for _, p := range s.Props[:cap(s.Props)][1:] {
		if p != (conf.Prop{}) {
			t.Error(p)
		}
	}
	checkNone(t, conf.File{Dirs: []conf.Prop{prop("b", "/", 0)}, Sections: short.Sections}, "/app", api.ErrSection)
}

// P18.1: no two lists of one answer share memory.
func TestParseMemory(t *testing.T) {
	f := read(t, "dir.a = /\ndir.b = /\n[a]\nx = 1\n[b]\nx = 1\n")
	f.Dirs[0].Name = "c"
	f.Sections[0].Props[0].Value = "2"
	_ = append(f.Sections[0].Props, prop("y", "3", 1))
	_ = append(f.Dirs, prop("y", "3", 1))
	want := conf.File{Dirs: []conf.Prop{prop("c", "/", 1), prop("b", "/", 2)}, Sections: []conf.Section{part("a", prop("x", "2", 4)), part("b", prop("x", "1", 6))}}
	if !same(f, want) {
		t.Error(f)
	}
}

// P18.2
func TestGet(t *testing.T) {
	s := read(t, "[a]\nx = 1\ny =\nz += 2\nx += 3\nlonger.name_- = a b\n[b]\nw = 4").Sections[0]
	cases := []struct {
		name, want string
		ok         bool
	}{
		{"x", "1:3", true}, {"y", "", true}, {"z", "2", true}, {"longer.name_-", "a b", true},
		{"w", "", false}, {"", "", false}, {"X", "", false}, {"xx", "", false}, {" x", "", false}, {"x ", "", false}, {"longer.name_", "", false}, {"longer", "", false}, {"a", "", false}, {"1:3", "", false}, {"\xff", "", false}, {strings.Repeat("x", 100000), "", false},
	}
	for _, c := range cases {
		if v, ok := s.Get(c.name); v != c.want || ok != c.ok {
			t.Errorf("Get(%.300q): %q, %v", c.name, v, ok)
		}
		if v, ok := (conf.Section{Name: c.name}).Get(c.name); v != "" || ok {
			t.Errorf("Get(%.300q) of none: %q, %v", c.name, v, ok)
		}
	}
}

// P18.2: parts that no text says: the first property of a name, whatever names and values are.
func TestGetAny(t *testing.T) {
	s := part("", prop("\xff", "\x00", -1), prop("x", "", 0), prop("x", "1", 0), prop("", "2", math.MinInt))
	for _, c := range []struct {
		name, want string
		ok         bool
	}{{"\xff", "\x00", true}, {"x", "", true}, {"", "2", true}, {"\x00", "", false}} {
		if v, ok := s.Get(c.name); v != c.want || ok != c.ok {
			t.Errorf("Get(%q): %q, %v", c.name, v, ok)
		}
	}
	if v, ok := (conf.Section{Props: s.Props[:1]}).Get("x"); v != "" || ok {
		t.Error(v, ok)
	}
}

// checkExpand: this is a value, expanded.
func checkExpand(t *testing.T, value string, level int, want string, wantErr api.Errno) {
	t.Helper()
	if s, e := conf.Expand(value, level); s != want || e != wantErr {
		t.Errorf("Expand(%.300q, %d): %.300q, %v, not %.300q, %v", value, level, s, e, want, wantErr)
	}
}

// P18.3
func TestExpand(t *testing.T) {
	cases := []struct{ value, want string }{
		{"", ""}, {"a", "a"}, {" /a : b ", " /a : b "}, {"\x00\xff\n", "\x00\xff\n"},
		{"${LIB}", "lib64"}, {"${LEVEL}", "29"}, {"/${LIB}/${LEVEL}", "/lib64/29"},
		{"${LIB}${LIB}", "lib64lib64"}, {"${LIB}${LEVEL}", "lib6429"}, {"${LEVEL}${LIB}${LEVEL}", "29lib6429"},
		{"a${LIB}b${LEVEL}c", "alib64b29c"}, {"/x/${LIB}:/y/${LIB}", "/x/lib64:/y/lib64"},
		{"$", "$"}, {"{", "{"}, {"}", "}"}, {"$$", "$$"}, {"{}", "{}"}, {"}{$", "}{$"}, {"{LIB}", "{LIB}"}, {"LIB", "LIB"}, {"$LIB", "$LIB"}, {"$ {LIB}", "$ {LIB}"}, {"$a{LIB}", "$a{LIB}"}, {"{$}", "{$}"}, {"$(LIB)", "$(LIB)"}, {"}${LIB}", "}lib64"}, {"${LIB}}", "lib64}"}, {"$${LIB}", "$lib64"}, {"${LIB}$", "lib64$"}, {"{${LIB}", "{lib64"}, {"{${LIB}}", "{lib64}"}, {"${LIB}{LIB}", "lib64{LIB}"}, {"$${LIB}{LEVEL}", "$lib64{LEVEL}"}, {"${LEVEL}{", "29{"},
	}
	for _, c := range cases {
		checkExpand(t, c.value, 29, c.want, api.OK)
		checkExpand(t, c.value+"${X}", 29, "", api.ErrValue)
		checkExpand(t, c.value+"${", 29, "", api.ErrValue)
	}
}

// P18.3: values in which something else stands that begins so.
func TestExpandWrong(t *testing.T) {
	for _, value := range []string{"${", "${}", "${X}", "${x", "${LIB", "${LEVEL", "${LI}", "${LIBB}", "${lib}", "${Lib}", "${ LIB}", "${LIB }", "${LEVEL\x00}", "${level}", "${LEVE}", "${LEVELS}", "${{LIB}", "${{LIB}}", "${${LIB}}", "${${LEVEL}}", "${LIB${LEVEL}}", "${LIB${LIB}", "${${", "${$", "$${", "$${}", "${LIB{}", "${LIB]", "${LIB)", "${L\xff}", "${LIBLEVEL}", "${LIB,LEVEL}", "${LIB:LEVEL}", "${lib64}", "${29}", "${\n}", "${LIB\n}"} {
		for _, level := range []int{0, 29, -1} {
			checkExpand(t, value, level, "", api.ErrValue)
			checkExpand(t, "/a:"+value, level, "", api.ErrValue)
			checkExpand(t, "${LIB}"+value, level, "", api.ErrValue)
			checkExpand(t, "${LEVEL}/"+value+"/b", level, "", api.ErrValue)
		}
	}
	checkExpand(t, "${X}${LIB}", 29, "", api.ErrValue)
	checkExpand(t, "${X}${", 29, "", api.ErrValue)
}

// P18.3: any levels.
func TestExpandLevels(t *testing.T) {
	for _, level := range []int{0, 1, 9, 10, 29, 10000, 65536, math.MaxInt32, math.MaxInt32 + 1, 1234567890123456789, math.MaxInt} {
		checkExpand(t, "${LEVEL}", level, strconv.Itoa(level), api.OK)
		checkExpand(t, "a${LEVEL}b${LEVEL}", level, "a"+strconv.Itoa(level)+"b"+strconv.Itoa(level), api.OK)
		checkExpand(t, "${LIB}", level, "lib64", api.OK)
	}
	for _, level := range []int{-1, -29, math.MinInt32, math.MinInt} {
		checkExpand(t, "a${LEVEL}b", level, "a0b", api.OK)
	}
}

// P18.3, P1: long values are done in as many steps as they have bytes.
func TestExpandLong(t *testing.T) {
	const many = 200000
	checkExpand(t, strings.Repeat("${LIB}", many), 0, strings.Repeat("lib64", many), api.OK)
	checkExpand(t, strings.Repeat("a${LEVEL}", many), 7, strings.Repeat("a7", many), api.OK)
	checkExpand(t, strings.Repeat("$", many), 0, strings.Repeat("$", many), api.OK)
	checkExpand(t, strings.Repeat("}", many), 0, strings.Repeat("}", many), api.OK)
	checkExpand(t, strings.Repeat("${", many), 0, "", api.ErrValue)
	checkExpand(t, strings.Repeat("${LIB}", many)+"${", 0, "", api.ErrValue)
	checkExpand(t, "${"+strings.Repeat("a", many), 0, "", api.ErrValue)
}
