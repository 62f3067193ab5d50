package conf_test

import (
	"slices"
	"strconv"
	"strings"
	"testing"

	"messuage/api"
	"messuage/conf"
)

// sameSection: are two parts the same? (A list that is nil is an empty one.)
func sameSection(a, b conf.Section) bool { return a.Name == b.Name && slices.Equal(a.Props, b.Props) }

// same: are two configurations the same?
func same(a, b conf.File) bool {
	return slices.Equal(a.Dirs, b.Dirs) && slices.EqualFunc(a.Sections, b.Sections, sameSection)
}

// checkParse: this is what a text says.
func checkParse(t *testing.T, text string, want conf.File) {
	t.Helper()
	if f, at, e := conf.Parse(text); !same(f, want) || at != 0 || e != api.OK {
		t.Errorf("Parse(%.300q): %.300v, %d, %v, not %.300v", text, f, at, e, want)
	}
}

// checkWrong: a text has its first fault in this line; nothing else is answered.
func checkWrong(t *testing.T, text string, want int, wantErr api.Errno) {
	t.Helper()
	if f, at, e := conf.Parse(text); len(f.Dirs) > 0 || len(f.Sections) > 0 || at != want || e != wantErr {
		t.Errorf("Parse(%.300q): %.300v, %d, %v, not %d, %v", text, f, at, e, want, wantErr)
	}
}

// checkProps: the lines behind one that begins a part say these properties; that one is the first line.
func checkProps(t *testing.T, lines string, want ...conf.Prop) {
	t.Helper()
	checkParse(t, "[a]\n"+lines, parts(part("a", want...)))
}

// checkWrongLine: within a part a line is wrong, alone and among others.
func checkWrongLine(t *testing.T, line string, want api.Errno) {
	t.Helper()
	checkWrong(t, "[a]\n"+line, 2, want)
	checkWrong(t, "dir.a = /x\n[a]\nx = 1\n\n"+line+"\ny = 2\n", 5, want)
}

// checkWrongAhead: ahead of all parts a line is wrong, alone and among others.
func checkWrongAhead(t *testing.T, line string, want api.Errno) {
	t.Helper()
	checkWrong(t, line, 1, want)
	checkWrong(t, "dir.a = /x\n # \n"+line+"\n[a]\ny = 2\n", 3, want)
}

func prop(name, value string, line int) conf.Prop {
	return conf.Prop{Name: name, Value: value, Line: line}
}
func part(name string, l ...conf.Prop) conf.Section { return conf.Section{Name: name, Props: l} }
func parts(l ...conf.Section) conf.File             { return conf.File{Sections: l} }
func dirs(l ...conf.Prop) conf.File                 { return conf.File{Dirs: l} }

// P18.1 to P18.3: the chapter's own example.
func TestExample(t *testing.T) {
	f, at, e := conf.Parse("dir.a = /system\n[a]\nx = 1\nx += 2\n")
	if at != 0 || e != api.OK {
		t.Fatal(at, e)
	}
	s, e := conf.Choose(f, "/system/bin/app")
	if s.Name != "a" || e != api.OK {
		t.Error(s, e)
	}
	if v, ok := s.Get("x"); v != "1:2" || !ok {
		t.Error(v, ok)
	}
	if v, e := conf.Expand("/${LIB}/${X}", 29); v != "" || e != api.ErrValue {
		t.Error(v, e)
	}
}

// P18.1: all of a configuration, with what says nothing between.
func TestWhole(t *testing.T) {
	text := "# for whom\ndir.system = /system/bin\n\tdir.vendor=/vendor # theirs\r\ndir.system = /\n \t\r\n" +
		"[system]\nadditional.namespaces = a , b\nx = 1\n[empty]\n#[no]\n [vendor] # theirs\nx=2\ny.z-W_9 += 3\nx += 4"
	checkParse(t, text, conf.File{
		Dirs: []conf.Prop{prop("system", "/system/bin", 2), prop("vendor", "/vendor", 3), prop("system", "/", 4)},
		Sections: []conf.Section{
			part("system", prop("additional.namespaces", "a , b", 7), prop("x", "1", 8)),
			part("empty"),
			part("vendor", prop("x", "2:4", 14), prop("y.z-W_9", "3", 13)),
		},
	})
}

// P18.1: texts that say nothing, by themselves and around a part.
func TestNothing(t *testing.T) {
	for _, text := range []string{"", "\n", "\n\n\n", " ", "\t", "\r", "\r\n", " \t\r \n\t", "#", "#\n#", " # x", "##", "# [", "#x = \n", "\t#=\r\n\n"} {
		checkParse(t, text, conf.File{})
		checkParse(t, text+"\n[a]\n"+text, parts(part("a")))
		checkParse(t, text+"\ndir.a = /\n"+text, dirs(prop("a", "/", 2+strings.Count(text, "\n"))))
	}
}

// P18.1: lines end with a byte 10, or with the text.
func TestLineEnds(t *testing.T) {
	checkParse(t, "[a]", parts(part("a")))
	checkParse(t, "[a]\n", parts(part("a")))
	checkProps(t, "x=1", prop("x", "1", 2))
	checkProps(t, "x=1\n", prop("x", "1", 2))
	checkProps(t, "x=1\ny=2", prop("x", "1", 2), prop("y", "2", 3))
	checkProps(t, "x=1\n\ny=2\n\n", prop("x", "1", 2), prop("y", "2", 4))
	checkProps(t, "x=1\r\n\r\ny=2\r\n", prop("x", "1", 2), prop("y", "2", 4))
	checkProps(t, "x=1\ry=2\n", prop("x", "1\ry=2", 2)) // a byte 13 ends no line
	checkParse(t, "dir.a=/x", dirs(prop("a", "/x", 1)))
	checkWrong(t, "x", 1, api.ErrLine)
	checkWrong(t, "x\n", 1, api.ErrLine)
	checkWrong(t, "[a]\nx = 1\nx", 3, api.ErrLine)
	checkWrong(t, "[a]\nx = 1\nx\n", 3, api.ErrLine)
}

// P18.1: at the greatest length that a text may have, and past it.
func TestLength(t *testing.T) {
	for _, text := range []string{"", "[a]\nx = 1\n", "dir.a = /x # "} {
		want, _, _ := conf.Parse(text)
		for _, b := range []string{"\n", " ", "#"} {
			filled := text + strings.Repeat(b, 16384-len(text))
			checkParse(t, filled, want)
			checkWrong(t, filled+b, 0, api.ErrBig)
			checkWrong(t, filled+strings.Repeat(b, 100000), 0, api.ErrBig)
		}
	}
	value := strings.Repeat("v", 16384-len("[a]\nx="))
	checkProps(t, "x="+value, prop("x", value, 2))
	checkWrong(t, "[a]\nx="+value+"v", 0, api.ErrBig)
	// Of too long a text no line is looked at.
	checkWrong(t, "x"+strings.Repeat("\n", 16383), 1, api.ErrLine)
	checkWrong(t, "x"+strings.Repeat("\n", 16384), 0, api.ErrBig)
	checkWrong(t, strings.Repeat("\n", 16383)+"[", 16384, api.ErrSection)
	checkWrong(t, strings.Repeat("\n", 16384)+"[", 0, api.ErrBig)
	checkWrong(t, strings.Repeat("\xff", 16385), 0, api.ErrBig)
}

// P18.1: as many parts, properties and folders as a text has room for.
func TestManyLines(t *testing.T) {
	text, want := "", conf.File{}
	for i := 0; len(text)+20 < api.MaxText; i++ {
		text += "[" + strconv.Itoa(i) + "]\n"
		want.Sections = append(want.Sections, part(strconv.Itoa(i)))
	}
	checkParse(t, text, want)
	checkWrong(t, text+"[0]", len(want.Sections)+1, api.ErrSection)
	text, want = "[a]\n", parts(part("a"))
	for i := 0; len(text)+20 < api.MaxText; i++ {
		text += strconv.Itoa(i) + "=\n"
		want.Sections[0].Props = append(want.Sections[0].Props, prop(strconv.Itoa(i), "", i+2))
	}
	checkParse(t, text, want)
	text, want = "", conf.File{}
	for i := 0; len(text)+20 < api.MaxText; i++ {
		text += "dir." + strconv.Itoa(i) + "=/\n"
		want.Dirs = append(want.Dirs, prop(strconv.Itoa(i), "/", i+1))
	}
	checkParse(t, text, want)
	checkProps(t, strings.Repeat("x+=y\n", 3000), prop("x", strings.Repeat("y:", 2999)+"y", 3001))
}

// P18.1: each byte but those that end a line or what it says: in a value, behind one, behind a #, among blanks.
func TestBytes(t *testing.T) {
	for n := range 256 {
		b := string([]byte{byte(n)})
		if n == '\n' || n == '#' {
			continue
		}
		if n != 9 && n != 13 && (n < 32 || n > 126) {
			for _, line := range []string{"x = v" + b + "v", "x = v" + b, "x = " + b, "x" + b + " = v", b + "x = v", "x = v #" + b, "x = v # x" + b + "x", "#" + b, " # " + b + " #", b, " " + b, b + " ", "\t" + b + "\r", "[" + b, "[b" + b + "]", "[b]" + b, b + "[b]", "[b] #" + b} {
				checkWrongLine(t, line, api.ErrLine)
				checkWrongAhead(t, line, api.ErrLine)
			}
			checkWrongAhead(t, "dir.a = /x"+b, api.ErrLine)
			checkWrongAhead(t, "dir.a = /x #"+b, api.ErrLine)
			continue
		}
		checkProps(t, "x = v"+b+"v", prop("x", "v"+b+"v", 2))
		checkProps(t, "x = v #"+b, prop("x", "v", 2))
		checkProps(t, "#"+b+"\n # "+b+"x")
		checkParse(t, "#"+b+"\ndir.a = /x #"+b, dirs(prop("a", "/x", 2)))
		if n == 9 || n == 13 || n == 32 {
			checkProps(t, "x = v"+b, prop("x", "v", 2))
			checkProps(t, b+"x"+b+"="+b+"v"+b+b+"v"+b+"#", prop("x", "v"+b+b+"v", 2))
			checkProps(t, b+"\n"+b+" "+b+"\n"+b+"#")
			checkParse(t, b+"[a]"+b+"\n"+b+"[b]"+b+"#"+b, parts(part("a"), part("b")))
		} else {
			checkProps(t, "x = v"+b, prop("x", "v"+b, 2))
			checkProps(t, "x = "+b+"v", prop("x", b+"v", 2))
		}
	}
}

// inName: may a name have this byte?
func inName(b byte) bool {
	return strings.IndexByte("ABCDEFGHIJKLMNOPQRSTUVWXYZabcdefghijklmnopqrstuvwxyz0123456789._-", b) >= 0
}

// P18.1: names with each byte, of a part, a property and of a folder's part.
func TestNames(t *testing.T) {
	for n := range 127 {
		b := string([]byte{byte(n)})
		if n < 32 && n != 9 && n != 13 || n == '#' {
			continue
		}
		for _, name := range []string{b, b + b, b + "n", "n" + b, "n" + b + "n"} {
			if inName(byte(n)) {
				checkParse(t, "["+name+"]", parts(part(name)))
				checkProps(t, name+" = v", prop(name, "v", 2))
				checkProps(t, name+" += v", prop(name, "v", 2))
				checkParse(t, "dir."+name+"=/x", dirs(prop(name, "/x", 1)))
				continue
			}
			checkWrongLine(t, "["+name+"]", api.ErrSection)
			checkWrongAhead(t, "["+name+"]", api.ErrSection)
		}
		if !inName(byte(n)) && n != '=' {
			checkWrongLine(t, "n"+b+"n = v", api.ErrLine)
			checkWrongLine(t, "n"+b+"n += v", api.ErrLine)
			checkWrongAhead(t, "dir.n"+b+"n = /x", api.ErrLine)
		}
	}
}

// P18.1: names of no bytes, of one, of as many as may be, and of one more.
func TestNameLengths(t *testing.T) {
	long := strings.Repeat("a", 256)
	checkParse(t, "["+long+"]", parts(part(long)))
	checkProps(t, long+"=v", prop(long, "v", 2))
	checkProps(t, long+"+=v", prop(long, "v", 2))
	checkProps(t, " "+long+" \t+= v", prop(long, "v", 2))
	checkParse(t, "dir."+long[:252]+"=/", dirs(prop(long[:252], "/", 1)))
	checkParse(t, "["+long+"]\n["+long[1:]+"]\n[a]", parts(part(long), part(long[1:]), part("a")))
	for _, name := range []string{"", long + "a", long + long} {
		checkWrongLine(t, "["+name+"]", api.ErrSection)
		checkWrongAhead(t, "["+name+"]", api.ErrSection)
		checkWrongLine(t, name+"=v", api.ErrLine)
		checkWrongLine(t, name+" = v", api.ErrLine)
		checkWrongLine(t, name+"+=v", api.ErrLine)
		checkWrongAhead(t, name+"=/x", api.ErrLine)
	}
	checkWrongAhead(t, "dir."+long[:253]+"=/", api.ErrLine)
	checkWrongAhead(t, "dir."+long+"=/", api.ErrLine)
	checkParse(t, "["+long[:253]+"]", parts(part(long[:253]))) // such a part may be, no folder is its own
}

// P18.1: lines that begin a part, or seem to.
func TestBrackets(t *testing.T) {
	for _, line := range []string{"[b]", " [b]", "[b] ", "\t\r [b]\t\r ", "[b]#", "[b] # ]", "[b]#]", "[b]\r"} {
		checkParse(t, line, parts(part("b")))
		checkParse(t, "[a]\nx = 1\n"+line+"\nx = 2", parts(part("a", prop("x", "1", 2)), part("b", prop("x", "2", 4))))
	}
	for _, line := range []string{"[", "[]", "[ ]", "[b", " [b", "[b #]", "[b#]", "[#]", "[b]]", "[[b]", "[[b]]", "[]]", "[[]", "[[", "[ b]", "[b ]", "[ b ]", "[\tb]", "[b\r]", "[b c]", "[b] c", "[b]c", "[b]=", "[b] = 1", "[b = 1", "[b] = ]", "[=]", "[x = 1]", "[b],", "[b].", "[/b]", "[a]"} {
		checkWrongLine(t, line, api.ErrSection)
		if line != "[a]" {
			checkWrongAhead(t, line, api.ErrSection)
		}
	}
	for _, line := range []string{"b[", "b]", "]", "][", "]b[", "b [c]", "x[b]", ". [b]", "x [b] = 1", "x[ = 1", "] = 1", "x] = 1", "=[b]", "+=[b]"} {
		checkWrongLine(t, line, api.ErrLine)
		checkWrongAhead(t, line, api.ErrLine)
	}
	checkProps(t, "x = [b]", prop("x", "[b]", 2))
	checkProps(t, "x = [", prop("x", "[", 2))
	checkProps(t, "#[b]\n# [")
}

// P18.1: a part may not be there ahead already; names that are unlike in any byte are other ones.
func TestPartsTwice(t *testing.T) {
	checkWrong(t, "[a]\n[a]", 2, api.ErrSection)
	checkWrong(t, "[a]\nx = 1\n[b]\n[a] # again", 4, api.ErrSection)
	checkWrong(t, "[a]\n[b]\n[c]\n\n [b]\n[a]", 5, api.ErrSection)
	checkParse(t, "[a]\n[A]\n[aa]\n[a.]\n[-a]\n[_a]\n[1]\n[01]\n[dir.a]\n[.]", parts(part("a"), part("A"), part("aa"), part("a."), part("-a"), part("_a"), part("1"), part("01"), part("dir.a"), part(".")))
	// A part that is named ahead for a folder isn't there by that.
	checkParse(t, "dir.a = /x\n[a]", conf.File{Dirs: []conf.Prop{prop("a", "/x", 1)}, Sections: []conf.Section{part("a")}})
}

// P18.1: what a line of a property must have.
func TestEquals(t *testing.T) {
	for _, line := range []string{"x", "x 1", "x: 1", "+", "x +", "x+", "x # = 1", "x#=1", "dir.a", "dir.a /x", "."} {
		checkWrongLine(t, line, api.ErrLine)
		checkWrongAhead(t, line, api.ErrLine)
	}
	for _, line := range []string{"=", "= 1", "=1", "  = 1", "+=", "+= 1", " += 1", "+=1", "==", "== 1", "=+", "= += 1", "++= 1", "x++= 1", "x ++= 1", "x+ += 1", "x + = 1", "x+ = 1", "+x = 1", "+ = 1", "x y = 1", "x\ty = 1", "x\ry += 1", "x-y z = 1", "x,y = 1", "x:y = 1", "${x} = 1"} {
		checkWrongLine(t, line, api.ErrLine)
		checkWrongAhead(t, line, api.ErrLine)
	}
	for _, line := range []string{"x=1", "x =1", "x= 1", "x = 1", " x \t=\r 1 ", "x\t=\t1\t", "x=1#", "x=1 # 2", "x += 1", "x+=1", "x+= 1", "x +=1", "x\t\r +=\t\r 1\t\r "} {
		checkProps(t, line, prop("x", "1", 2))
	}
}

// P18.1: values have what stands behind the first =.
func TestValues(t *testing.T) {
	for _, value := range []string{"", "=", "==", "+", "+=", "a=b", "a = b", "a += b", "=a", "+=a", "a+=", "a b", "a  b", "a\tb\rc", "[a]", "a]", "/a:/b", "a,b", "${LIB}", "${", "dir.a = /x", "\"a\"", "'", "\\", "~!@$%^&*()"} {
		checkProps(t, "x="+value, prop("x", value, 2))
		checkProps(t, "x = "+value+" ", prop("x", value, 2))
		checkProps(t, "x +=\t"+value+"\r\n", prop("x", value, 2))
		checkProps(t, "x = "+value+"#"+value, prop("x", value, 2))
	}
	checkProps(t, "x =\ny = \nz=", prop("x", "", 2), prop("y", "", 3), prop("z", "", 4))
	checkProps(t, "x = #\ny=#1", prop("x", "", 2), prop("y", "", 3))
}

// P18.1: for programs in which folder which part is.
func TestFolders(t *testing.T) {
	for _, name := range []string{"a", ".", "..", "dir.a", "dir", "-", "_", "9", "a.b", ".a"} {
		for _, folder := range []string{"/", "/a", "/a/b", "/...", "/.a", "/a.b/c-d", "/[a]", "/=", "/+=", "/a=b", "/~", "/!", "/" + strings.Repeat("a", 255)} {
			checkParse(t, "dir."+name+" = "+folder, dirs(prop(name, folder, 1)))
			checkParse(t, "\n dir."+name+"="+folder+"# ", dirs(prop(name, folder, 2)))
		}
	}
	for _, line := range []string{"dir. = /x", "dir.=/x", "dir = /x", "dir/a = /x", "dira = /x", "dir.a b = /x", "dir. a = /x", "dir .a = /x", "dir.a/b = /x", "dir.a, = /x", "Dir.a = /x", "DIR.a = /x", "di.a = /x", "adir.a = /x", ".dir.a = /x", "xdir. = /x", "x = 1", "x = /x", "x += /x", "a = /"} {
		checkWrongAhead(t, line, api.ErrLine)
	}
	for _, line := range []string{"dir.a += /x", "dir.a+=/x", "dir. += /x", "dir.a+ = /x", "dir.a +=", "dir.+=/x"} {
		checkWrongAhead(t, line, api.ErrLine)
	}
	for _, folder := range []string{"", "a", "x", ".", "//", "/x/", "//x", "/./x", "/x/.", "/x/..", "/..", "/.", "/x//y", "x/y", "/x y", "/x\ty", "/x /y", "= /x", "#/x", "/" + strings.Repeat("a", 256), strings.Repeat("/a", 129)} {
		checkWrongAhead(t, "dir.a = "+folder, api.ErrLine)
	}
}

// P18.1: a part may be for several folders, and a folder may be told again: all stay as they were told.
func TestFoldersTwice(t *testing.T) {
	checkParse(t, "dir.a = /x\ndir.a = /y\n\ndir.b = /x\ndir.a = /x", dirs(prop("a", "/x", 1), prop("a", "/y", 2), prop("b", "/x", 4), prop("a", "/x", 5)))
}

// P18.1: from the first part on such lines tell properties like others.
func TestFoldersInParts(t *testing.T) {
	checkParse(t, "dir.a = /x\n[a]\ndir.a = /y\ndir. = 1\ndir.b = x/\ndir.a += /z\n[b]\ndir.c += 2", conf.File{
		Dirs: []conf.Prop{prop("a", "/x", 1)},
		Sections: []conf.Section{
			part("a", prop("dir.a", "/y:/z", 6), prop("dir.", "1", 4), prop("dir.b", "x/", 5)),
			part("b", prop("dir.c", "2", 8)),
		},
	})
	checkWrongLine(t, "dir.a b = /x", api.ErrLine)
	checkWrongLine(t, "dir.a", api.ErrLine)
}

// P18.1: a property that is told again; its place is the first one, its line the last one.
func TestAgain(t *testing.T) {
	checkProps(t, "x = 1\nx = 2", prop("x", "2", 3))
	checkProps(t, "x = 1\ny = 2\n\nx = 3\nz = 4\ny = 5", prop("x", "3", 5), prop("y", "5", 7), prop("z", "4", 6))
	checkProps(t, "x = 1\nx =", prop("x", "", 3))
	checkProps(t, "x = 1\nx = 1", prop("x", "1", 3))
	checkProps(t, "x = 1\nX = 2\nx. = 3\n.x = 4\nxx = 5", prop("x", "1", 2), prop("X", "2", 3), prop("x.", "3", 4), prop(".x", "4", 5), prop("xx", "5", 6))
	checkParse(t, "[a]\nx = 1\n[b]\nx += 2\n[c]\nx += 3\nx = 4", parts(part("a", prop("x", "1", 2)), part("b", prop("x", "2", 4)), part("c", prop("x", "4", 7))))
}

// P18.1: what is added to a property: to one that wasn't told, that was told empty, that was told.
func TestAdded(t *testing.T) {
	cases := []struct{ lines, want string }{
		{"x += 1", "1"},
		{"x +=", ""},
		{"x =\nx += 1", "1"},
		{"x +=\nx += 1", "1"},
		{"x =\nx +=", ""},
		{"x = 1\nx += 2", "1:2"},
		{"x += 1\nx += 2", "1:2"},
		{"x += 1\nx += 2\nx += 3", "1:2:3"},
		{"x = 1\nx +=", "1:"}, // what stands there isn't empty: nothing is added behind it, and a : between
		{"x = 1\nx +=\nx +=", "1::"},
		{"x = 1\nx +=\nx += 2", "1::2"},
		{"x = 1\nx =\nx += 2", "2"},
		{"x = 1\nx += 2\nx = 3", "3"},
		{"x = 1\nx += 2\nx = 3\nx += 4", "3:4"},
		{"x = 1\nx += 1", "1:1"},
		{"x = a:b\nx += c:d", "a:b:c:d"},
		{"x = a:\nx += :b", "a:::b"},
		{"x = a,b\nx += c", "a,b:c"},
		{"x = 1 # one\nx += 2 # two", "1:2"},
		{"x = #\nx += # two", ""},
		{"x = a =\nx += += b", "a =:+= b"},
	}
	for _, c := range cases {
		checkProps(t, c.lines, prop("x", c.want, 2+strings.Count(c.lines, "\n")))
		comma := strings.ReplaceAll(c.lines, "x ", "x.links ")
		want := c.want
		switch c.want {
		case "a:b:c:d":
			want = "a:b,c:d"
		case "a:::b":
			want = "a:,:b"
		default:
			want = strings.ReplaceAll(want, ":", ",")
		}
		checkProps(t, comma, prop("x.links", want, 2+strings.Count(c.lines, "\n")))
		all := strings.ReplaceAll(c.lines, "x ", "additional.namespaces ")
		checkProps(t, all, prop("additional.namespaces", want, 2+strings.Count(c.lines, "\n")))
	}
}

// P18.1: the names to whose values is added with a comma, and those that are like them.
func TestBetween(t *testing.T) {
	commas := []string{"additional.namespaces", ".links", "x.links", "namespace.default.links", "..links", "links.links", ".links.links", "-.links"}
	colons := []string{"links", "xlinks", "x-links", ".link", ".links.x", "x.links.y", ".linksx", ".links.", "x.links.link", "x.Links", ".LINKS", "namespace.default.link.a.shared_libs", "namespace.default.search.paths",
		"namespaces", "additional", "additional.", "additional.namespace", "additional.namespacess", "additional.namespaces.", "additional.namespaces.x", "x.additional.namespaces", ".additional.namespaces", "Additional.namespaces", "additional-namespaces", "dir.a"}
	for _, name := range commas {
		checkProps(t, name+" = p\n"+name+" += q\n"+name+" += r:s", prop(name, "p,q,r:s", 4))
		checkProps(t, name+" += p,q\n"+name+" += r", prop(name, "p,q,r", 3))
	}
	for _, name := range colons {
		checkProps(t, name+" = p\n"+name+" += q\n"+name+" += r,s", prop(name, "p:q:r,s", 4))
		checkProps(t, name+" += p:q\n"+name+" += r", prop(name, "p:q:r", 3))
	}
}

// P18.1: of more than one fault the first line's is told; of a line's own faults a byte that may not be.
func TestFirstFault(t *testing.T) {
	faults := []struct {
		line string
		e    api.Errno
	}{{"x", api.ErrLine}, {"[", api.ErrSection}, {"= 1", api.ErrLine}, {"[b c]", api.ErrSection}, {"#\x00", api.ErrLine}, {"[a]", api.ErrSection}, {"\x7f", api.ErrLine}}
	for _, one := range faults {
		for _, other := range faults {
			checkWrong(t, "[a]\n"+one.line+"\n"+other.line, 2, one.e)
			checkWrong(t, "[a]\n\nx = 1\n"+one.line+"\n\n"+other.line+"\n[b]", 4, one.e)
			if one.line != "[a]" {
				checkWrong(t, one.line+"\n"+other.line, 1, one.e)
			}
		}
		checkWrong(t, "x = 1\n[a]\n"+one.line, 1, api.ErrLine)
	}
	checkWrongLine(t, "[b\x00", api.ErrLine)
	checkWrongLine(t, "[a]#\xff", api.ErrLine)
	checkWrongLine(t, "[a] \x1f", api.ErrLine)
	checkWrong(t, "[a]\n[a]\x7f\n", 2, api.ErrLine)
}
