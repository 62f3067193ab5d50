package nsconf

import (
	"slices"
	"strings"

	"messuage/api"
	"messuage/conf"
	"messuage/path"
)

// blanks don't count at the ends of a namespace's name that is told.
const blanks = " \t"

// reader takes namespaces out of a part of a configuration.
type reader struct {
	sec   conf.Section
	level int
	names map[string]struct{} // of the namespaces
	asked map[string]struct{} // the properties that were looked for, told or not
}

// Build: the namespaces of a part of a configuration, the first one ahead.
func Build(sec conf.Section, level int) ([]api.Space, api.Errno) {
	r := reader{sec: sec, level: level, asked: map[string]struct{}{}}
	names, e := r.spaces()
	if e != api.OK {
		return nil, e
	}
	var l []api.Space
	for _, name := range names {
		s, e := r.space(name)
		if e != api.OK {
			return nil, e
		}
		l = append(l, s)
	}
	if !every(sec.Props, r.known) {
		return nil, api.ErrProperty
	}
	return l, api.OK
}

// known: was a property asked for?
func (r *reader) known(p conf.Prop) bool {
	_, ok := r.asked[p.Name]
	return ok
}

// spaces: the namespaces' names, which are known to the reader from now on.
func (r *reader) spaces() ([]string, api.Errno) {
	names, e := r.members(spaces)
	if e != api.OK {
		return nil, e
	}
	names = slices.Insert(names, 0, First)
	if len(names) > api.MaxNs {
		return nil, api.ErrNsMany
	}
	known, ok := once(names)
	if !ok || !every(names, Name) {
		return nil, api.ErrNsName
	}
	r.names = known
	return names, api.OK
}

// space: the namespace of a name, with all that is told of it.
func (r *reader) space(name string) (api.Space, api.Errno) {
	s := api.Space{Name: name}
	var e api.Errno
	for _, rule := range flags() {
		if *rule.of(&s), e = r.flag(aheadOf(name) + rule.property); e != api.OK {
			return api.Space{}, e
		}
	}
	for _, rule := range lists() {
		if *rule.of(&s), e = r.list(aheadOf(name)+rule.property, rule.may); e != api.OK {
			return api.Space{}, e
		}
	}
	ends, e := r.members(aheadOf(name) + links)
	if e != api.OK {
		return api.Space{}, e
	}
	for _, to := range ends {
		l, e := r.link(s, to)
		if e != api.OK {
			return api.Space{}, e
		}
		s.Links = append(s.Links, l)
	}
	return s, api.OK
}

// link: the link to one of the names that a namespace, with the links so far, has more.
func (r *reader) link(s api.Space, to string) (api.LinkTo, api.Errno) {
	ahead := aheadOfLink(s.Name, to)
	all, e := r.flag(ahead + allLibs)
	if e != api.OK {
		return api.LinkTo{}, e
	}
	libs, e := r.list(ahead+someLibs, Libs)
	if e != api.OK {
		return api.LinkTo{}, e
	}
	// Asked apart from the list: told without members, it is told.
	_, told := r.sec.Get(ahead + someLibs)
	if all && told || !all && len(libs) == 0 {
		return api.LinkTo{}, api.ErrValue
	}
	if _, ok := r.names[to]; !ok {
		return api.LinkTo{}, api.ErrNoNs
	}
	l := api.LinkTo{To: to, Libs: libs, All: all}
	if !Fits(s, l) {
		return api.LinkTo{}, api.ErrLinks
	}
	return l, api.OK
}

// value: what a property says, and whether it was told. From now on it is one that was asked for.
func (r *reader) value(name string) (string, bool, api.Errno) {
	r.asked[name] = struct{}{}
	told, ok := r.sec.Get(name)
	value, e := conf.Expand(told, r.level)
	return value, ok, e
}

// flag: is it told that it is so?
func (r *reader) flag(name string) (bool, api.Errno) {
	value, told, e := r.value(name)
	switch {
	case e != api.OK:
		return false, e
	case !told || value == off:
		return false, api.OK
	case value == on:
		return true, api.OK
	}
	return false, api.ErrValue
}

// list: the members of a list that may be.
func (r *reader) list(name string, may func([]string) bool) ([]string, api.Errno) {
	value, _, e := r.value(name)
	if e != api.OK {
		return nil, e
	}
	l := path.List(value)
	if !may(l) {
		return nil, api.ErrValue
	}
	return l, api.OK
}

// members: the namespaces that a list of them names.
func (r *reader) members(name string) ([]string, api.Errno) {
	value, _, e := r.value(name)
	if e != api.OK {
		return nil, e
	}
	var names []string
	for _, one := range strings.Split(value, inNames) {
		if one = strings.Trim(one, blanks); one != "" {
			names = append(names, one)
		}
	}
	return names, api.OK
}
