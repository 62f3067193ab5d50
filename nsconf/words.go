package nsconf

import "messuage/api"

// The words of properties.
const (
	spaces   = "additional.namespaces"
	ofSpace  = "namespace."
	ofLink   = "link."
	dot      = "." // behind a name within a property
	links    = "links"
	allLibs  = "allow_all_shared_libs"
	someLibs = "shared_libs"

	on  = "true"
	off = "false"

	inList  = ":"
	inNames = ","
)

// flagRule is what is so of a namespace, or isn't: the property that says it, and where the namespace has it.
type flagRule struct {
	property string
	of       func(*api.Space) *bool
}

// flags: in the order in which they are looked over and written.
func flags() []flagRule {
	return []flagRule{
		{"isolated", func(s *api.Space) *bool { return &s.Isolated }},
		{"visible", func(s *api.Space) *bool { return &s.Visible }},
	}
}

// listRule is a list of a namespace: the property that says it, where the namespace has it, and whether it may be.
type listRule struct {
	property string
	of       func(*api.Space) *[]string
	may      func([]string) bool
}

// lists: in the order in which they are looked over and written.
func lists() []listRule {
	return []listRule{
		{"search.paths", func(s *api.Space) *[]string { return &s.Search }, Paths},
		{"permitted.paths", func(s *api.Space) *[]string { return &s.Permitted }, Paths},
		{"allowed_libs", func(s *api.Space) *[]string { return &s.Allowed }, Libs},
	}
}

// aheadOf: what stands ahead of all that is said of a namespace.
func aheadOf(name string) string { return ofSpace + name + dot }

// aheadOfLink: what stands ahead of all that is said of a namespace's link to another one.
func aheadOfLink(name, to string) string { return aheadOf(name) + ofLink + to + dot }
