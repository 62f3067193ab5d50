package nsconf

import (
	"strings"

	"messuage/api"
)

const (
	head  = "dir.all = /\n[all]\n" // all programs take the one part
	is    = " = "
	ended = "\n"
)

// writer lays down the lines of a configuration.
type writer struct {
	text strings.Builder
}

// Write: a configuration of one part, for all programs, that says these namespaces.
func Write(l []api.Space) (string, api.Errno) {
	if !Right(l) {
		return "", api.ErrValue
	}
	var w writer
	w.text.WriteString(head)
	w.say(spaces, namesOf(l[1:]), inNames)
	for _, s := range l {
		w.space(s)
	}
	if w.text.Len() > api.MaxText {
		return "", api.ErrBig
	}
	return w.text.String(), api.OK
}

// space: all that is to be said of a namespace.
func (w *writer) space(s api.Space) {
	ahead := aheadOf(s.Name)
	for _, r := range flags() {
		w.flag(ahead+r.property, *r.of(&s))
	}
	for _, r := range lists() {
		w.say(ahead+r.property, *r.of(&s), inList)
	}
	var ends []string
	for _, l := range s.Links {
		ends = append(ends, l.To)
	}
	w.say(ahead+links, ends, inNames)
	for _, l := range s.Links {
		ahead := aheadOfLink(s.Name, l.To)
		w.flag(ahead+allLibs, l.All)
		w.say(ahead+someLibs, l.Libs, inList)
	}
}

// flag: a line, if it is so; what isn't told isn't so.
func (w *writer) flag(name string, so bool) {
	if so {
		w.say(name, []string{on}, "")
	}
}

// say: a line for a list that has members; what isn't told has none.
func (w *writer) say(name string, l []string, between string) {
	if len(l) > 0 {
		w.text.WriteString(name + is + strings.Join(l, between) + ended)
	}
}
