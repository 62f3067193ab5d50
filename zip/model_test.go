package zip_test

import (
	standard "archive/zip"
	"bytes"
	"encoding/binary"
	"io"
	"slices"
	"strings"
	"testing"

	"messuage/api"
	"messuage/rows"
	"messuage/zip"
)

// numbers is a row of numbers, and what is made of them here.
type numbers struct{ *rows.Row }

func row(seed uint64) *numbers { return &numbers{rows.New(seed)} }

// model is an archive by the chapter's words: its entries, and where the list begins.
type model struct {
	entries []zip.Entry
	list    int
}

func n16(s string) int { return int(binary.LittleEndian.Uint16([]byte(s))) }
func n32(s string) int { return int(binary.LittleEndian.Uint32([]byte(s))) }

// read: what an archive says; false: it isn't right.
func read(s string) (model, bool) {
	place := -1
	for at := range len(s) - 21 {
		if strings.HasPrefix(s[at:], "PK\x05\x06") && at+22+n16(s[at+20:]) == len(s) {
			place = at
		}
	}
	if place < 0 || len(s) > 1<<18 {
		return model{}, false
	}
	tail := s[place:]
	many, size, at := n16(tail[8:]), n32(tail[12:]), n32(tail[16:])
	if tail[4:8] != "\x00\x00\x00\x00" || tail[8:10] != tail[10:12] || at+size > place {
		return model{}, false
	}
	m := model{list: at}
	for rest := s[at : at+size]; rest != ""; {
		if len(rest) < 46 || rest[:4] != "PK\x01\x02" {
			return model{}, false
		}
		name := n16(rest[28:])
		all := 46 + name + n16(rest[30:]) + n16(rest[32:])
		if len(rest) < all {
			return model{}, false
		}
		m.entries = append(m.entries, zip.Entry{
			Name:   rest[46 : 46+name],
			Method: n16(rest[10:]),
			Size:   uint64(n32(rest[24:])),
			Stored: uint64(n32(rest[20:])),
			At:     uint64(n32(rest[42:])),
		})
		rest = rest[all:]
	}
	return m, len(m.entries) == many
}

// find: what Find should say to a name.
func (m model) find(s, name string) (int, int, api.Errno) {
	ahead := s[:m.list]
	for _, e := range m.entries {
		if e.Name != name {
			continue
		}
		if e.Method != 0 {
			return 0, 0, api.ErrPacked
		}
		at, size := int(e.At), int(e.Size)
		if at+30 > len(ahead) || e.Size != e.Stored {
			return 0, 0, api.ErrZip
		}
		h := ahead[at:]
		begin := at + 30 + n16(h[26:]) + n16(h[28:])
		right := h[:4] == "PK\x03\x04" && h[8:10] == "\x00\x00" && begin+size <= len(ahead)
		if !right || h[30:30+n16(h[26:])] != name {
			return 0, 0, api.ErrZip
		}
		if begin%256 != 0 {
			return 0, 0, api.ErrUnlined
		}
		return begin, size, api.OK
	}
	return 0, 0, api.ErrEntry
}

// archive: any archive, now and then with something wrong in an entry.
func (r *numbers) archive(faults int) string {
	ahead := strings.Repeat("x", r.Below(3)*r.Below(300))
	list := ""
	count := r.Below(5)
	for range count {
		name := r.Text("a", "b", "", "ab", "\xff")
		e := plain(name, r.Below(40), len(ahead))
		extra := strings.Repeat("e", (1<<16-len(ahead)-30-len(name))%256)
		switch r.Below(faults) {
		case 0:
			e.Method = 1 + r.Below(8)
		case 1:
			e.Stored++
		case 2:
			e.At += uint64(r.Below(3))
		case 3:
			extra += "e"
		case 4:
			name = r.Text("a", "b", "", "ab")
		case 5:
			e.Size += uint64(r.Below(600))
			e.Stored = e.Size
		}
		ahead += own(name, extra, int(e.Size)) + strings.Repeat("d", r.Below(60))
		list += listed(e, r.Text("", "", "extra"), r.Text("", "", last(0, 0, 0, "")))
	}
	between := r.Text("", "", "gap")
	return ahead + list + between + last(count, len(list), len(ahead), r.Text("", "", "remark", "PK\x05\x06", last(0, 0, 0, "")))
}

// spoil: an archive in which some number or byte has changed, or that has lost or won bytes, most often near its end.
func (r *numbers) spoil(s string) string {
	at := r.Below(len(s) - 3)
	if r.Below(2) == 0 {
		at = max(0, len(s)-4-r.Below(100))
	}
	switch r.Below(6) {
	case 0:
		return s[:at] + s[at+1:]
	case 1:
		return s[:at] + r.Text("\x00", "x") + s[at:]
	case 2:
		return put(s, at, two(r.Below(70)))
	case 3:
		return put(s, at, r.Text("PK\x05\x06", "PK\x01\x02", "PK\x03\x04"))
	case 4:
		return s[:at]
	}
	return put(s, at, string([]byte{s[at] + byte(r.Below(3)) - 1}))
}

// P7.1, P7.2: any archives, right and wrong, held against the chapter's words.
func TestAgainstModel(t *testing.T) {
	met := map[api.Errno]int{}
	lists := map[api.Errno]int{}
	for seed := range uint64(20000) {
		r := row(seed)
		s := r.archive(20)
		for range r.Below(3) {
			s = r.spoil(s + none(4-min(4, len(s))))
		}
		m, ok := read(s)
		wantErr := api.OK
		if !ok {
			m, wantErr = model{}, api.ErrZip
		}
		if l, e := zip.List([]byte(s)); e != wantErr || !slices.Equal(l, m.entries) {
			t.Fatalf("row %d: List: %v, %v, not %v, %v: %q", seed, l, e, m.entries, wantErr, s)
		}
		lists[wantErr]++
		for _, name := range []string{"a", "b", "", "ab", "\xff"} {
			at, size, e := 0, 0, wantErr
			if ok {
				at, size, e = m.find(s, name)
				met[e]++
			}
			if gotAt, gotSize, gotErr := zip.Find([]byte(s), name); gotAt != uint64(at) || gotSize != uint64(size) || gotErr != e {
				t.Fatalf("row %d: Find(%q): %d, %d, %v, not %d, %d, %v: %q", seed, name, gotAt, gotSize, gotErr, at, size, e, s)
			}
		}
	}
	for _, e := range []api.Errno{api.OK, api.ErrZip, api.ErrEntry, api.ErrPacked, api.ErrUnlined} {
		if met[e] < 300 {
			t.Errorf("%v was met just %d times", e, met[e])
		}
	}
	if lists[api.OK] < 5000 || lists[api.ErrZip] < 5000 {
		t.Errorf("lists: %v", lists)
	}
}

// files: some of them, of few names, and of sizes near a page's.
func (r *numbers) files() []zip.File {
	var l []zip.File
	for range r.Below(12) {
		name := r.Text("a", "b", "lib/x.so", strings.Repeat("n", 1+r.Below(256)), "PK\x01\x02")
		data := make([]byte, r.Below(2)*(230+r.Below(60))+r.Below(3))
		for i := range data {
			data[i] = byte(r.Below(256))
		}
		l = append(l, zip.File{Name: name, Data: data})
	}
	return l
}

// P7.3, P7.4: what is made says what went in, and each file is found in it; so finds a reader of archives that isn't this one.
func TestMadeIsRight(t *testing.T) {
	for seed := range uint64(2000) {
		files := row(seed).files()
		b, e := zip.Make(files)
		l, listErr := zip.List(b)
		if e != api.OK || listErr != api.OK || len(l) != len(files) {
			t.Fatalf("row %d: %v, %v, %d", seed, e, listErr, len(l))
		}
		end := uint64(0)
		for i, one := range files {
			if want := plain(one.Name, len(one.Data), int(end)); l[i] != want {
				t.Fatalf("row %d: %v, not %v", seed, l[i], want)
			}
			first := slices.IndexFunc(files, func(f zip.File) bool { return f.Name == one.Name })
			at, size, e := zip.Find(b, one.Name)
			if e != api.OK || at%256 != 0 || size != l[first].Size || !bytes.Equal(b[at:at+size], files[first].Data) {
				t.Fatalf("row %d: Find(%q): %d, %d, %v", seed, one.Name, at, size, e)
			}
			if first == i {
				end = at + size
			} else {
				end += 30 + uint64(len(one.Name))
				end += -end%256 + uint64(len(one.Data))
			}
		}
		checkStandard(t, b, files)
	}
}

// checkStandard: does the library's own reader find the files in an archive?
func checkStandard(t *testing.T, b []byte, files []zip.File) {
	t.Helper()
	r, err := standard.NewReader(bytes.NewReader(b), int64(len(b)))
	if err != nil || len(r.File) != len(files) {
		t.Fatal(err)
	}
	for i, f := range r.File {
		in, err := f.Open()
		if err != nil {
			t.Fatal(err)
		}
		data, err := io.ReadAll(in)
		if err != nil || f.Name != files[i].Name || !bytes.Equal(data, files[i].Data) || f.Method != standard.Store {
			t.Fatalf("%q: %v", f.Name, err)
		}
	}
}

// P7.1, P7.2: archives that the library's own writer has made.
func TestOfStandard(t *testing.T) {
	var b bytes.Buffer
	w := standard.NewWriter(&b)
	for _, name := range []string{"a", "lib/b.so"} {
		h := standard.FileHeader{Name: name, Method: standard.Store, UncompressedSize64: 3, CompressedSize64: 3}
		w.Flush()
		h.Extra = make([]byte, (1<<16-b.Len()-30-len(name))%256)
		f, err := w.CreateRaw(&h)
		if err != nil {
			t.Fatal(err)
		}
		f.Write([]byte("xyz"))
	}
	packed, _ := w.CreateHeader(&standard.FileHeader{Name: "p", Method: standard.Deflate})
	packed.Write(make([]byte, 500))
	w.SetComment("a remark")
	w.Close()
	s := b.String()
	checkFind(t, "standard", s, "a", 256, 3, api.OK)
	checkFind(t, "standard", s, "lib/b.so", 512, 3, api.OK)
	checkFind(t, "standard", s, "p", 0, 0, api.ErrPacked)
	checkFind(t, "standard", s, "q", 0, 0, api.ErrEntry)
	l, e := zip.List(b.Bytes())
	if len(l) != 3 || e != api.OK || l[2].Size != 500 || l[2].Stored >= 500 || l[2].Method != 8 {
		t.Error(l, e)
	}
}
