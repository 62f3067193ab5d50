package conf_test

import (
	gopath "path"
	"regexp"
	"slices"
	"strconv"
	"strings"
	"testing"

	"messuage/api"
	"messuage/conf"
	"messuage/rows"
)

// The model reads lines by patterns: what may stand there at all, and the three things that a line says.
var (
	mayBe     = regexp.MustCompile(`^[\t\r -~]*$`)
	empty     = regexp.MustCompile(`^[\t\r ]*(#|$)`)
	bracket   = regexp.MustCompile(`^[\t\r ]*\[`)
	beginning = regexp.MustCompile(`^[\t\r ]*\[([A-Za-z0-9._-]{1,256})\][\t\r ]*(?:#|$)`)
	telling   = regexp.MustCompile(`^[\t\r ]*([A-Za-z0-9._-]{1,256})[\t\r ]*(\+?=)[\t\r ]*([^#]*?)[\t\r ]*(?:#|$)`)
	adding    = regexp.MustCompile(`^(additional\.namespaces|.*\.links)$`)
	variable  = regexp.MustCompile(`\$\{([^}]*)(\}?)`)
)

// parse: what a text says by the chapter's words, or the first line that is wrong and its error.
func parse(text string) (conf.File, int, api.Errno) {
	if len(text) > 16384 {
		return conf.File{}, 0, api.ErrBig
	}
	f := conf.File{}
	for at, line := range strings.Split(text, "\n") {
		e := api.OK
		begun, told := beginning.FindStringSubmatch(line), telling.FindStringSubmatch(line)
		switch {
		case !mayBe.MatchString(line):
			e = api.ErrLine
		case empty.MatchString(line):
		case begun != nil:
			if slices.ContainsFunc(f.Sections, func(s conf.Section) bool { return s.Name == begun[1] }) {
				e = api.ErrSection
			}
			f.Sections = append(f.Sections, conf.Section{Name: begun[1]})
		case bracket.MatchString(line):
			e = api.ErrSection
		case told == nil:
			e = api.ErrLine
		case len(f.Sections) > 0:
			s := &f.Sections[len(f.Sections)-1]
			s.Props = tell(s.Props, told[1], told[2], told[3], at+1)
		default:
			name, folder := strings.CutPrefix(told[1], "dir.")
			if !folder || name == "" || told[2] != "=" || !isFolder(told[3]) {
				e = api.ErrLine
			}
			f.Dirs = append(f.Dirs, conf.Prop{Name: name, Value: told[3], Line: at + 1})
		}
		if e != api.OK {
			return conf.File{}, at + 1, e
		}
	}
	return f, 0, api.OK
}

// tell: properties, and what a line says of one of them.
func tell(l []conf.Prop, name, sign, value string, line int) []conf.Prop {
	for i, p := range l {
		if p.Name != name {
			continue
		}
		if sign == "+=" && p.Value != "" {
			between := ":"
			if adding.MatchString(name) {
				between = ","
			}
			value = p.Value + between + value
		}
		l[i] = conf.Prop{Name: name, Value: value, Line: line}
		return l
	}
	return append(l, conf.Prop{Name: name, Value: value, Line: line})
}

// isFolder: is a text a clean path, as Go's own package of paths cleans?
func isFolder(s string) bool {
	return len(s) <= 256 && strings.HasPrefix(s, "/") && !strings.ContainsAny(s, " \t\r") && gopath.Clean(s) == s
}

// choose: the part for a program whose path is clean.
func choose(f conf.File, program string) (conf.Section, api.Errno) {
	for _, dir := range f.Dirs {
		if !strings.HasPrefix(program+"/", strings.TrimSuffix(dir.Value, "/")+"/") {
			continue
		}
		for _, s := range f.Sections {
			if s.Name == dir.Name {
				return s, api.OK
			}
		}
		break
	}
	return conf.Section{}, api.ErrSection
}

// expand: a value, expanded, by all that begins as a variable does.
func expand(value string, level int) (string, api.Errno) {
	for _, found := range variable.FindAllStringSubmatch(value, -1) {
		if found[1] != "LIB" && found[1] != "LEVEL" || found[2] == "" {
			return "", api.ErrValue
		}
	}
	value = strings.ReplaceAll(value, "${LIB}", "lib64")
	return strings.ReplaceAll(value, "${LEVEL}", strconv.Itoa(max(level, 0))), api.OK
}

// anyLine: a line of a configuration, now and then one that is wrong.
func anyLine(r *rows.Row, inPart bool) string {
	blank := func() string { return r.Text("", "", " ", "\t", "\r", "  ", " \t") }
	name := r.Text("a", "b", "x", "y.links", "additional.namespaces", "dir.a", "dir.b", ".links", "namespace.a.link.b", "x-_.9")
	if !inPart {
		name = r.Text("dir.a", "dir.b", "dir.c", "dir.dir.a")
	}
	value := r.Text("", "1", "/", "/s", "/s/t", "a,b", "/a:/b", "a = b", "+= c", "${LIB}/x", "[a]")
	if !inPart {
		value = r.Text("/", "/s", "/s/t", "/s/tt", "/u", "/...")
	}
	sign := r.Text("=", "=", "+=")
	if !inPart {
		sign = "="
	}
	line := blank() + name + blank() + sign + blank() + value + blank()
	switch r.Below(8) {
	case 0:
		line = blank()
	case 1:
		line = blank() + "[" + r.Text("a", "b", "c", "dir.a", "x", "y", "z") + strconv.Itoa(r.Below(20)) + "]" + blank()
	case 2:
		line = blank() + "[" + r.Text("a", "b", "c", "dir.a") + "]" + blank()
	}
	if r.Below(4) == 0 {
		line += r.Text("#", "# x", "#[a]", "# = #", "#\t~")
	}
	if r.Below(30) == 0 {
		line = spoil(r, line)
	}
	return line
}

// spoil: a line into which something is put, or of which something is left away.
func spoil(r *rows.Row, line string) string {
	at := r.Below(len(line) + 1)
	switch r.Below(3) {
	case 0:
		return line[:at]
	case 1:
		return line[at:]
	}
	return line[:at] + r.Text("[", "]", "=", "+", "+=", "#", " ", "\t", "\r", "/", ".", "..", "dir.", "a", "\x00", "\x1f", "\x7f", "\x80", "\xff", "~", ",", ":", "${", "\n") + line[at:]
}

// anyText: any configuration.
func anyText(r *rows.Row) string {
	var lines []string
	inPart := false
	for range r.Below(14) {
		line := anyLine(r, inPart)
		inPart = inPart || strings.HasPrefix(strings.TrimLeft(line, " \t\r"), "[")
		lines = append(lines, line)
	}
	return strings.Join(lines, "\n") + r.Text("", "\n")
}

// checkModel: a text says what the model says, a second time too; then what is chosen of it. How many parts are, and the error.
func checkModel(t *testing.T, text string) (int, api.Errno) {
	t.Helper()
	want, wantAt, wantErr := parse(text)
	if wantErr != api.OK {
		checkWrong(t, text, wantAt, wantErr)
		checkWrong(t, text, wantAt, wantErr)
		return 0, wantErr
	}
	checkParse(t, text, want)
	f, _, _ := conf.Parse(text)
	chosen := 0
	for _, program := range []string{"/", "/s", "/s/t", "/s/t/app", "/s/ttt", "/u/app", "/.../x", "/v"} {
		s, e := choose(want, program)
		checkChoose(t, f, program, s, e)
		checkChoose(t, f, program+"//x/./..", s, e)
		if e == api.OK {
			chosen++
		}
	}
	checkParse(t, text, f)
	return chosen, api.OK
}

// P18.1, P18.2, P1, P2: any configurations, right and wrong ones, held against a plain model of the chapter's words.
func TestModel(t *testing.T) {
	r := rows.New(18)
	many, chosen := map[api.Errno]int{}, 0
	for range 40000 {
		parts, e := checkModel(t, anyText(r))
		many[e]++
		chosen += parts
	}
	if many[api.OK] < 20000 || many[api.ErrLine] < 3000 || many[api.ErrSection] < 3000 || chosen < 10000 {
		t.Error(many, chosen)
	}
}

// P18.1, P1: all short texts of some bytes, by themselves and in a part.
func TestShortTexts(t *testing.T) {
	l := []string{""}
	for from, round := 0, 0; round < 5; round++ {
		upTo := len(l)
		for _, s := range l[from:upTo] {
			for _, one := range []string{"[", "]", "=", "+", "#", " ", "\n", "a", "\x00", "/", "\r"} {
				if round < 4 || one != "\x00" && one != "\r" && one != "/" {
					l = append(l, s+one)
				}
			}
		}
		from = upTo
	}
	for _, s := range l {
		for _, text := range []string{s, "[b]\n" + s, "dir." + s, "dir.a=" + s} {
			want, wantAt, wantErr := parse(text)
			if f, at, e := conf.Parse(text); !same(f, want) || at != wantAt || e != wantErr {
				t.Errorf("Parse(%q): %v, %d, %v, not %v, %d, %v", text, f, at, e, want, wantAt, wantErr)
			}
		}
	}
}

// P18.3, P1, P2: all short values of some pieces, with any levels.
func TestExpandModel(t *testing.T) {
	l := []string{""}
	for from, round := 0, 0; round < 5; round++ {
		upTo := len(l)
		for _, s := range l[from:upTo] {
			for _, one := range []string{"$", "{", "}", "LIB", "LEVEL", "${", "${LIB}", "${LEVEL}", "\xff"} {
				l = append(l, s+one)
			}
		}
		from = upTo
	}
	levels := []int{0, 29, -5, 1 << 40}
	right := 0
	for i, value := range l {
		level := levels[i%len(levels)]
		want, wantErr := expand(value, level)
		checkExpand(t, value, level, want, wantErr)
		if wantErr == api.OK {
			right++
		}
	}
	if right < 5000 || right > len(l)-5000 {
		t.Error(right, "of", len(l), "are right")
	}
}
