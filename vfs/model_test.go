package vfs_test

import (
	"slices"
	"strings"
	"testing"

	"messuage/api"
	"messuage/rows"
	"messuage/vfs"
)

// numbers is a row of numbers, and what is made of them here.
type numbers struct{ *rows.Row }

func row(seed uint64) *numbers { return &numbers{rows.New(seed)} }

// tree is a node by the chapter's words: it hangs below its folder, and knows its own.
type tree struct {
	api.Node
	number int
	up     *tree
	below  map[string]*tree
}

// plant: the tree of nodes that are known to be right, level by level.
func plant(nodes []api.Node) *tree {
	root := &tree{Node: api.Node{Path: "/", Kind: api.Dir}, below: map[string]*tree{}}
	root.up = root
	for level := 1; level < 10; level++ {
		for i, node := range nodes {
			names := strings.Split(node.Path, "/")[1:]
			if len(names) != level {
				continue
			}
			folder := root
			for _, name := range names[:level-1] {
				folder = folder.below[name]
			}
			folder.below[names[level-1]] = &tree{node, i + 1, folder, map[string]*tree{}}
		}
	}
	return root
}

// lead: where names lead from a folder on, with so many links met ahead.
func lead(root, at *tree, names []string, met int) (*tree, api.Errno) {
	for len(names) > 0 && (names[0] == "" || names[0] == ".") {
		names = names[1:]
	}
	if len(names) == 0 {
		return at, api.OK
	}
	if names[0] == ".." {
		return lead(root, at.up, names[1:], met)
	}
	next, ok := at.below[names[0]]
	switch {
	case !ok:
		return nil, api.ErrNone
	case next.Kind == api.Dir:
		return lead(root, next, names[1:], met)
	case next.Kind == api.File:
		if slices.ContainsFunc(names[1:], func(name string) bool { return name != "" && name != "." }) {
			return nil, api.ErrNotDir
		}
		return next, api.OK
	case met == 8:
		return nil, api.ErrLoop
	case next.To[0] == '/':
		at = root
	}
	return lead(root, at, slices.Concat(strings.Split(next.To, "/"), names[1:]), met+1)
}

// clean: by the chapter's words, for paths of names that these tests make.
func clean(p string) bool {
	for _, name := range strings.Split(strings.TrimPrefix(p, "/"), "/") {
		if name == "" || name == "." || name == ".." {
			return false
		}
	}
	return strings.HasPrefix(p, "/") && !strings.Contains(p, " ")
}

// wrong: what New should say to nodes.
func wrong(nodes []api.Node) api.Errno {
	kinds := map[string]api.NodeKind{"": api.Dir}
	for _, node := range nodes {
		fits := map[api.NodeKind]bool{
			api.Dir:  node.Data == nil && node.To == "",
			api.File: node.To == "",
			api.Link: node.Data == nil && node.To != "",
		}
		switch {
		case !clean(node.Path):
			return api.ErrPath
		case !fits[node.Kind]:
			return api.ErrKind
		case strings.Contains(node.To, " "):
			return api.ErrPath
		case kinds[node.Path] != 0:
			return api.ErrTwice
		}
		kinds[node.Path] = node.Kind
	}
	for _, node := range nodes {
		if kinds[node.Path[:strings.LastIndex(node.Path, "/")]] != api.Dir {
			return api.ErrParent
		}
	}
	return api.OK
}

// way: some names of the few that these file systems have, and what is between them.
func (r *numbers) way(most int) string {
	p := ""
	for range 1 + r.Below(most) {
		p += r.Text("a", "b", "c", "a", "b", "..", ".") + r.Text("/", "/", "/", "//", "/./")
	}
	if r.Below(3) != 0 {
		p = strings.TrimRight(p, "/")
	}
	return p
}

// node: any node, often below a folder that is there, now and then a wrong one.
func (r *numbers) node(nodes []api.Node, faults int) api.Node {
	folders := []string{""}
	for _, one := range nodes {
		if one.Kind == api.Dir || r.Below(faults) == 0 {
			folders = append(folders, one.Path)
		}
	}
	node := api.Node{Path: r.Text(folders...) + "/" + r.Text("a", "b", "c", "d"), Kind: api.NodeKind(1 + r.Below(3))}
	switch node.Kind {
	case api.File:
		node.Data = []byte(r.Text("x", "yy", "zzz"))
	case api.Link:
		node.To = r.Text("", "", "/") + r.way(3)
	}
	switch r.Below(faults * 8) {
	case 0:
		node.Path = r.Text("", "/", "a", "/a/..", "/ ", "/x/", "//a")
	case 1:
		node.Kind = api.NodeKind(r.Below(6) - 1)
	case 2:
		node.To += r.Text(" ", "a")
	case 3:
		node.Data = []byte("a")
	case 4:
		node.Path = "/none" + node.Path
	}
	return node
}

// nodes: some of them, in any order; those of one path left away, but for faults.
func (r *numbers) nodes(faults int) []api.Node {
	var l []api.Node
	for range r.Below(24) {
		node := r.node(l, faults)
		twice := slices.ContainsFunc(l, func(a api.Node) bool { return a.Path == node.Path })
		if !twice || r.Below(faults*8) == 0 {
			l = append(l, node)
		}
	}
	for i := range l {
		j := r.Below(i + 1)
		l[i], l[j] = l[j], l[i]
	}
	return l
}

// P6.1: any nodes, held against the chapter's words.
func TestNewAgainstModel(t *testing.T) {
	met := map[api.Errno]int{}
	for seed := range uint64(20000) {
		nodes := row(seed).nodes(4)
		want := wrong(nodes)
		f, e := vfs.New(nodes)
		if e != want || (f == nil) != (want != api.OK) || f != nil && f.Len() != len(nodes)+1 {
			t.Fatalf("row %d: %v, not %v: %v", seed, e, want, nodes)
		}
		met[want]++
	}
	for _, e := range []api.Errno{api.OK, api.ErrPath, api.ErrKind, api.ErrTwice, api.ErrParent} {
		if met[e] < 300 {
			t.Errorf("%v was met just %d times", e, met[e])
		}
	}
}

// look: are the answers for a path those of the model?
func look(f *vfs.FS, root *tree, p string) (api.Errno, bool) {
	to, e := lead(root, root, strings.Split(p, "/"), 0)
	n, own, gotErr := f.Resolve(p)
	number, path, data, openErr := f.Open(p)
	names, namesErr := f.Names(p)
	if e != api.OK {
		return e, n == 0 && own == "" && gotErr == e && number == 0 && path == "" && len(data) == 0 && openErr == e && len(names) == 0 && namesErr == e
	}
	if n != to.number || own != to.Path || gotErr != api.OK {
		return e, false
	}
	if to.Kind == api.File {
		return e, number == n && path == own && string(data) == string(to.Data) && openErr == api.OK && len(names) == 0 && namesErr == api.ErrNotDir
	}
	var want []string
	for name := range to.below {
		want = append(want, name)
	}
	slices.Sort(want)
	return e, number == 0 && path == "" && len(data) == 0 && openErr == api.ErrNotReg && slices.Equal(names, want) && namesErr == api.OK
}

// P6.2, P6.3: any paths in any file systems, held against the chapter's words.
func TestPathsAgainstModel(t *testing.T) {
	met := map[api.Errno]int{}
	for seed := range uint64(3000) {
		r := row(seed)
		nodes := r.nodes(1 << 40)
		f, root := system(t, nodes...), plant(nodes)
		for range 40 {
			p := "/" + r.way(6)
			e, ok := look(f, root, p)
			if !ok {
				t.Fatalf("row %d: %q in %v", seed, p, nodes)
			}
			met[e]++
		}
	}
	for _, e := range []api.Errno{api.OK, api.ErrNone, api.ErrNotDir, api.ErrLoop} {
		if met[e] < 1000 {
			t.Errorf("%v was met just %d times", e, met[e])
		}
	}
}

// P6.4: where a path leads has a path of its own, on which no links are; files stay as they are.
func TestOwnPaths(t *testing.T) {
	for seed := range uint64(1000) {
		r := row(seed)
		nodes := r.nodes(1 << 40)
		f := system(t, nodes...)
		for range 40 {
			p := "/" + r.way(6)
			n, own, e := f.Resolve(p)
			if e != api.OK {
				continue
			}
			checkResolve(t, f, own, n, own, api.OK)
			for i := range len(own) {
				if ahead := own[:i]; i > 0 && own[i] == '/' {
					number := 1 + slices.IndexFunc(nodes, func(a api.Node) bool { return a.Path == ahead })
					checkResolve(t, f, ahead, number, ahead, api.OK)
				}
			}
			if n > 0 && (nodes[n-1].Path != own || nodes[n-1].Kind == api.Link) {
				t.Errorf("%q leads to %v", p, nodes[n-1])
			}
			if n > 0 && nodes[n-1].Kind == api.File {
				checkOpen(t, f, p, n, own, string(nodes[n-1].Data), api.OK)
				checkOpen(t, f, own, n, own, string(nodes[n-1].Data), api.OK)
			}
		}
	}
}
