package conf

import (
	"strings"

	"messuage/api"
	"messuage/path"
)

const (
	lineEnd = "\n"
	remark  = "#"
	blanks  = " \t\r"
	opens   = "["
	closes  = "]"
	equals  = "="
	more    = "+" // right ahead of equals

	firstPlain = 32
	lastPlain  = 126
	longest    = 256 // bytes of a name

	folderAhead = "dir."
	spaces      = "additional.namespaces"
	linksBehind = ".links"
)

// take: what one line says is in the configuration from now on, unless it is wrong.
func (f *File) take(line string, number int) api.Errno {
	// Asked of the whole line, as a remark may not have other bytes either.
	if !plain(line) {
		return api.ErrLine
	}
	said, _, _ := strings.Cut(line, remark)
	said = strings.Trim(said, blanks)
	if said == "" {
		return api.OK
	}
	if inner, ok := strings.CutPrefix(said, opens); ok {
		return f.begin(inner)
	}
	t, ok := read(said)
	if !ok {
		return api.ErrLine
	}
	if len(f.Sections) == 0 {
		return f.folder(t, number)
	}
	f.Sections[len(f.Sections)-1].tell(t, number)
	return api.OK
}

// plain: has a line just bytes that may be?
func plain(line string) bool {
	for i := range len(line) {
		if strings.IndexByte(blanks, line[i]) < 0 && (line[i] < firstPlain || line[i] > lastPlain) {
			return false
		}
	}
	return true
}

// begin: the part begins whose name stands here, with what closes it behind.
func (f *File) begin(inner string) api.Errno {
	name, ok := strings.CutSuffix(inner, closes)
	if !ok || !isName(name) || section(f.Sections, name) >= 0 {
		return api.ErrSection
	}
	f.Sections = append(f.Sections, Section{Name: name})
	return api.OK
}

// told is what a line says of a property: its name, a value, and whether that is added to what it has.
type told struct {
	name, value string
	added       bool
}

// read: what such a line says, and true; false: it doesn't say such a thing.
func read(said string) (told, bool) {
	ahead, behind, ok := strings.Cut(said, equals)
	if !ok {
		return told{}, false
	}
	// Ahead of the blanks: a + that has some behind it is of the name, which may have none.
	ahead, added := strings.CutSuffix(ahead, more)
	t := told{strings.Trim(ahead, blanks), strings.Trim(behind, blanks), added}
	return t, isName(t.name)
}

// isName: is it a name of a part or of a property?
func isName(s string) bool {
	for i := range len(s) {
		if !inName(s[i]) {
			return false
		}
	}
	return s != "" && len(s) <= longest
}

// inName: may a name have this byte?
func inName(b byte) bool {
	letter := 'a' <= b && b <= 'z' || 'A' <= b && b <= 'Z'
	digit := '0' <= b && b <= '9'
	return letter || digit || b == '.' || b == '_' || b == '-'
}

// folder: for a folder there is a part, which need not stand there.
func (f *File) folder(t told, number int) api.Errno {
	name, ok := strings.CutPrefix(t.name, folderAhead)
	if !ok || name == "" || t.added || !path.IsClean(t.value) {
		return api.ErrLine
	}
	f.Dirs = append(f.Dirs, Prop{name, t.value, number})
	return api.OK
}

// tell: a property has a value, or has it more.
func (s *Section) tell(t told, number int) {
	i := property(s.Props, t.name)
	if i < 0 {
		s.Props = append(s.Props, Prop{t.name, t.value, number})
		return
	}
	p := &s.Props[i]
	if t.added && p.Value != "" {
		t.value = p.Value + between(t.name) + t.value
	}
	p.Value, p.Line = t.value, number
}

// between: what stands between a property's value and one that is added to it.
func between(name string) string {
	if name == spaces || strings.HasSuffix(name, linksBehind) {
		return ","
	}
	return ":"
}
