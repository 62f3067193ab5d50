package zip_test

import (
	"bytes"
	"encoding/binary"
	"slices"
	"strings"
	"testing"

	"messuage/api"
	"messuage/zip"
)

// two, four: numbers as archives have them.
func two(n int) string  { return string(binary.LittleEndian.AppendUint16(nil, uint16(n))) }
func four(n int) string { return string(binary.LittleEndian.AppendUint32(nil, uint32(n))) }

// none: so many bytes 0.
func none(many int) string { return strings.Repeat("\x00", many) }

// own: an entry's own header, as Make lays it.
func own(name, extra string, size int) string {
	return "PK\x03\x04" + two(10) + none(12) + four(size) + four(size) + two(len(name)) + two(len(extra)) + name + extra
}

// listed: an entry of the list.
func listed(e zip.Entry, extra, remark string) string {
	sizes := four(int(e.Stored)) + four(int(e.Size)) + two(len(e.Name)) + two(len(extra)) + two(len(remark))
	return "PK\x01\x02" + two(10) + two(10) + none(2) + two(e.Method) + none(8) + sizes + none(8) + four(int(e.At)) + e.Name + extra + remark
}

// plain: the entry of a file that stands as it is.
func plain(name string, size, at int) zip.Entry {
	return zip.Entry{Name: name, Size: uint64(size), Stored: uint64(size), At: uint64(at)}
}

// last: the last part of a list of so many entries and bytes at a place.
func last(many, size, at int, remark string) string {
	return "PK\x05\x06" + none(4) + two(many) + two(many) + four(size) + four(at) + two(len(remark)) + remark
}

// whole: an archive of what stands ahead of the list, and its entries.
func whole(ahead string, entries ...zip.Entry) string {
	list := ""
	for _, e := range entries {
		list += listed(e, "", "")
	}
	return ahead + list + last(len(entries), len(list), len(ahead), "")
}

// one: an archive of one file, which is named a.
func one(data string) string {
	return whole(own("a", none(225), len(data))+data, plain("a", len(data), 0))
}

// put: a text with another one laid over it at a place, from the end if it is below 0.
func put(s string, at int, over string) string {
	if at < 0 {
		at += len(s)
	}
	return s[:at] + over + s[at+len(over):]
}

func checkList(t *testing.T, what, b string, wantErr api.Errno, want ...zip.Entry) {
	t.Helper()
	if l, e := zip.List([]byte(b)); !slices.Equal(l, want) || e != wantErr {
		t.Errorf("List, %q: %v, %v, not %v, %v", what, l, e, want, wantErr)
	}
}

func checkFind(t *testing.T, what, b, name string, want, wantSize uint64, wantErr api.Errno) {
	t.Helper()
	if at, size, e := zip.Find([]byte(b), name); at != want || size != wantSize || e != wantErr {
		t.Errorf("Find(%q), %q: %d, %d, %v, not %d, %d, %v", name, what, at, size, e, want, wantSize, wantErr)
	}
}

// checkNone: the archive isn't right: each call that takes it answers so, and nothing else.
func checkNone(t *testing.T, what, b string) {
	t.Helper()
	checkList(t, what, b, api.ErrZip)
	checkFind(t, what, b, "a", 0, 0, api.ErrZip)
	checkFind(t, what, b, "no such name", 0, 0, api.ErrZip)
}

func checkMake(t *testing.T, what string, want string, wantErr api.Errno, files ...zip.File) {
	t.Helper()
	if b, e := zip.Make(files); string(b) != want || e != wantErr {
		t.Errorf("Make, %q: %d bytes, %v, not %d, %v", what, len(b), e, len(want), wantErr)
	}
}

func file(name, data string) zip.File { return zip.File{Name: name, Data: []byte(data)} }

// P7.1 to P7.3: the chapter's examples.
func TestExamples(t *testing.T) {
	b, e := zip.Make([]zip.File{file("a", "xy")})
	if e != api.OK {
		t.Fatal(e)
	}
	checkFind(t, "xy", string(b), "a", 256, 2, api.OK)
	checkFind(t, "xy", string(b), "b", 0, 0, api.ErrEntry)
	checkFind(t, "no bytes", "", "a", 0, 0, api.ErrZip)
	checkNone(t, "no bytes", "")
	if _, e := zip.List(nil); e != api.ErrZip {
		t.Error(e)
	}
	if _, _, e := zip.Find(nil, ""); e != api.ErrZip {
		t.Error(e)
	}
}

// P7.1: the least archive has no entries.
func TestLeast(t *testing.T) {
	least := last(0, 0, 0, "")
	checkList(t, "least", least, api.OK)
	checkFind(t, "least", least, "", 0, 0, api.ErrEntry)
	for n := range len(least) {
		checkNone(t, "cut", least[:n])
	}
	checkList(t, "bytes ahead", "abc"+least, api.OK)
	checkNone(t, "a byte behind", least+"\x00")
	checkNone(t, "no mark", put(least, 0, "Q"))
	checkNone(t, "zeros", none(100))
}

// P7.1: entries say what stands in the list, in its order; names are any bytes.
func TestEntries(t *testing.T) {
	entries := []zip.Entry{
		{Name: "b", Method: 8, Size: 1, Stored: 2, At: 3},
		{Name: "", Method: 65535, Size: 1<<32 - 1, Stored: 1<<32 - 2, At: 1<<32 - 3},
		{Name: "\x00/\xff ü", Method: 256, Size: 0x01020304, Stored: 0x05060708, At: 0x090a0b0c},
		{Name: strings.Repeat("n", 65535)},
		{Name: "b"},
	}
	list := listed(entries[0], "", "") + listed(entries[1], "extra", "") + listed(entries[2], "", "remark") +
		listed(entries[3], "PK\x01\x02", "PK\x05\x06") + listed(entries[4], strings.Repeat("e", 65535), strings.Repeat("r", 65535))
	checkList(t, "entries", list+last(5, len(list), 0, ""), api.OK, entries...)
	checkList(t, "bytes ahead and between", "ahead"+list+"between"+last(5, len(list), 5, "remark"), api.OK, entries...)
}

// P7.1: numbers that the chapter doesn't name say nothing.
func TestUnnamedNumbers(t *testing.T) {
	entry := zip.Entry{Name: "a", Method: 1, Size: 2, Stored: 3, At: 4}
	list := listed(entry, "", "")
	for _, at := range []int{4, 6, 8, 12, 14, 16, 18, 34, 36, 38, 40} {
		other := put(list, at, "\xff\xff")
		checkList(t, "unnamed", other+last(1, len(other), 0, ""), api.OK, entry)
	}
}

// P7.1: as many bytes as may be, and one more.
func TestMostBytes(t *testing.T) {
	least := last(0, 0, 0, "")
	ahead := none(api.MaxFile - len(least))
	checkList(t, "most", ahead+least, api.OK)
	checkFind(t, "most", ahead+least, "a", 0, 0, api.ErrEntry)
	checkNone(t, "one more", ahead+"\x00"+least)
	b := one("xy")
	checkFind(t, "most", b[:258]+none(api.MaxFile-len(b))+listed(plain("a", 2, 0), "", "")+last(1, 47, api.MaxFile-69, ""), "a", 256, 2, api.OK)
}

// P7.1: a remark goes just to the end, and has 65535 bytes at most.
func TestRemark(t *testing.T) {
	for _, n := range []int{1, 2, 255, 256, 257, 65534, 65535} {
		b := "ahead" + last(0, 0, 0, strings.Repeat("r", n))
		checkList(t, "remark", b, api.OK)
		checkList(t, "many bytes ahead", none(1000)+b, api.OK)
		checkNone(t, "one byte less", b[:len(b)-1])
		checkNone(t, "one byte more", b+"r")
	}
	checkNone(t, "65536", last(0, 0, 0, "")+strings.Repeat("r", 65536))
	checkNone(t, "0 stands there for 65536", put(last(0, 0, 0, ""), 20, two(0))+strings.Repeat("r", 65536))
	checkNone(t, "65535 stands there for 65536", put(last(0, 0, 0, ""), 20, two(65535))+strings.Repeat("r", 65536))
}

// P7.1: of several last parts the last place counts, right or not, if its remark goes just to the end.
func TestRemarkWithin(t *testing.T) {
	entry := plain("a", 2, 0)
	list := listed(entry, "", "")
	inner := last(0, 0, 0, "inner")
	outer := func(remark string) string { return list + last(1, len(list), 0, remark) }
	checkList(t, "no last part within", outer("PK\x05\x06"), api.OK, entry)
	checkList(t, "inner one", outer("remark"+inner), api.OK)
	checkList(t, "inner one at the remark's beginning", outer(inner), api.OK)
	checkFind(t, "inner one", outer("remark"+inner), "a", 0, 0, api.ErrEntry)
	checkList(t, "it ends ahead of the end", outer(inner+"r"), api.OK, entry)
	checkList(t, "it goes past the end", outer(inner[:len(inner)-1]), api.OK, entry)
	checkList(t, "it is cut", outer(inner[:21]), api.OK, entry)
	checkNone(t, "the inner one isn't right", outer(put(inner, 4, "\x01")))
	checkNone(t, "the inner one's list isn't right", outer(put(inner, 12, "\x01")))
	checkList(t, "three", outer(inner+last(0, 0, 0, "")), api.OK)
	checkList(t, "the inner one has the list", list+last(7, 7, 7, last(1, len(list), 0, "")), api.OK, entry)
	checkList(t, "the outer one ends too early", list+put(last(0, 0, 0, ""), 20, "\x01")+last(1, len(list), 0, ""), api.OK, entry)
}

// P7.1: what isn't right in a last part.
func TestLastPart(t *testing.T) {
	b := one("xy")
	for _, at := range []int{-18, -17, -16, -15} {
		checkNone(t, "a number isn't 0", put(b, at, "\x01"))
	}
	for _, many := range []string{two(0) + two(1), two(1) + two(0), two(1) + two(2), two(2) + two(1), two(257) + two(1), two(1) + two(257)} {
		checkNone(t, "counts differ", put(b, -14, many))
	}
	for _, many := range []int{0, 2, 256, 257, 65535} {
		checkNone(t, "both counts are wrong", put(b, -14, two(many)+two(many)))
	}
	for _, size := range []int{0, 1, 46, 48, 69, 1<<16 + 47, 1<<24 + 47, 1<<32 - 1} {
		checkNone(t, "the list's size is wrong", put(b, -10, four(size)))
	}
	for _, at := range []int{0, 257, 259, 305, 327, 328, 1<<16 + 258, 1<<24 + 258, 1<<32 - 1, 1<<32 - 47} {
		checkNone(t, "the list's place is wrong", put(b, -6, four(at)))
	}
	for at := range 4 {
		checkNone(t, "no mark", put(b, at-22, "\xff"))
	}
}

// P7.1: the list lies ahead of the last part, whether it has bytes or not.
func TestListAhead(t *testing.T) {
	for _, at := range []int{0, 1, 9, 10} {
		checkList(t, "no entries", none(10)+last(0, 0, at, ""), api.OK)
	}
	for _, at := range []int{11, 31, 32, 33, 1<<32 - 1} {
		checkNone(t, "behind where the last part begins", none(10)+last(0, 0, at, ""))
	}
	// An entry whose remark is the last part: the list would have just its entry, but ends behind the last part.
	cut := listed(zip.Entry{}, "", none(22))[:46]
	checkNone(t, "around the last part", cut+last(1, 68, 0, ""))
	checkNone(t, "into the last part", put(cut, 32, two(1))+last(1, 47, 0, ""))
	checkList(t, "up to the last part", put(cut, 32, two(0))+last(1, 46, 0, ""), api.OK, zip.Entry{})
}

// P7.1: the list has just as many entries as there are, and nothing behind them.
func TestListRight(t *testing.T) {
	entry := listed(zip.Entry{Name: "n"}, "e", "r")
	list := func(many int, list string) string { return list + last(many, len(list), 0, "") }
	checkList(t, "two", list(2, entry+entry), api.OK, zip.Entry{Name: "n"}, zip.Entry{Name: "n"})
	checkNone(t, "one of two counted", list(1, entry+entry))
	checkNone(t, "three of two counted", list(3, entry+entry))
	checkNone(t, "none counted", list(0, entry))
	checkNone(t, "bytes behind", list(1, entry+"\x00"))
	checkNone(t, "bytes behind no entries", list(0, "\x00"))
	checkNone(t, "a byte between", list(2, entry+"\x00"+entry))
	for n := range len(entry) {
		checkNone(t, "cut", list(1, entry[:n]))
		checkNone(t, "the second is cut", list(2, entry+entry[:n]))
		// What is missing lies behind the list, but isn't of it.
		checkNone(t, "cut in place", entry+last(1, n, 0, ""))
	}
	for at := range 4 {
		checkNone(t, "no mark", list(1, put(entry, at, "\xff")))
		checkNone(t, "the second has none", list(2, entry+put(entry, at, "\xff")))
	}
	for _, at := range []int{28, 30, 32} {
		for _, size := range []int{0, 2, 257, 65535} {
			checkNone(t, "a text's size", list(1, put(entry, at, two(size))))
		}
	}
	checkList(t, "other sizes, the same sum", list(1, put(entry, 28, two(0)+two(0)+two(3))), api.OK, zip.Entry{})
	checkList(t, "all of it the name", list(1, put(entry, 28, two(3)+two(0)+two(0))), api.OK, zip.Entry{Name: "ner"})
}

// P7.1: many entries, many more than Make would lay.
func TestManyEntries(t *testing.T) {
	const many = (api.MaxFile - 22) / 46
	list := strings.Repeat(listed(zip.Entry{}, "", ""), many)
	if l, e := zip.List([]byte(list + last(many, len(list), 0, ""))); len(l) != many || e != api.OK {
		t.Error(len(l), e)
	}
	checkNone(t, "one less", list[46:]+last(many, len(list)-46, 0, ""))
}

// P7.2: no entry has that name.
func TestFindNone(t *testing.T) {
	b := one("xy")
	for _, name := range []string{"", "b", "A", "aa", "a\x00", "/a", strings.Repeat("a", 70000)} {
		checkFind(t, "one", b, name, 0, 0, api.ErrEntry)
	}
	// A header that the list doesn't name is none.
	checkFind(t, "not in the list", own("a", none(225), 2)+"xy"+last(0, 0, 0, ""), "a", 0, 0, api.ErrEntry)
}

// P7.2: names are any bytes, also none, and more than a path may have.
func TestFindNames(t *testing.T) {
	for _, name := range []string{"", "\x00", "\xff\xfe", "lib/x.so", strings.Repeat("n", 256), strings.Repeat("n", 257), strings.Repeat("n", 65535)} {
		extra := none((1<<17 - 30 - len(name)) % 256)
		ahead := own(name, extra, 2)
		checkFind(t, "names", whole(ahead+"xy", plain(name, 2, 0)), name, uint64(len(ahead)), 2, api.OK)
	}
}

// P7.2: of several of one name the first counts, whatever is wrong with it.
func TestFindFirst(t *testing.T) {
	ahead := own("a", none(225), 2) + "xy"
	second := ahead + none(254) + ahead
	right, behind := plain("a", 2, 0), plain("a", 2, 512)
	packed, wrong := right, right
	packed.Method = 8
	wrong.At = 1
	checkFind(t, "both right", whole(second, right, behind), "a", 256, 2, api.OK)
	checkFind(t, "the other order", whole(second, behind, right), "a", 768, 2, api.OK)
	checkFind(t, "the first is packed", whole(second, packed, behind), "a", 0, 0, api.ErrPacked)
	checkFind(t, "the first is wrong", whole(second, wrong, behind), "a", 0, 0, api.ErrZip)
	checkFind(t, "the second is wrong", whole(second, right, wrong, packed), "a", 256, 2, api.OK)
	checkFind(t, "others are wrong", whole(ahead, zip.Entry{Name: "b", Method: 8}, zip.Entry{At: 7}, right), "a", 256, 2, api.OK)
}

// P7.2: a method that isn't 0, in the list or in the header.
func TestFindPacked(t *testing.T) {
	ahead := own("a", none(225), 2) + "xy"
	for _, method := range []int{1, 8, 255, 256, 65535} {
		entry := plain("a", 2, 0)
		entry.Method = method
		checkFind(t, "in both", whole(put(ahead, 8, two(method)), entry), "a", 0, 0, api.ErrPacked)
		checkFind(t, "in the list", whole(ahead, entry), "a", 0, 0, api.ErrPacked)
		checkFind(t, "in the header", whole(put(ahead, 8, two(method)), plain("a", 2, 0)), "a", 0, 0, api.ErrZip)
		entry.At, entry.Stored = 1<<32-1, 77
		checkFind(t, "all else is wrong, too", whole(ahead, entry), "a", 0, 0, api.ErrPacked)
	}
}

// P7.2: a header that doesn't lie ahead of the list, or lacks its number.
func TestFindHeader(t *testing.T) {
	ahead := own("a", none(225), 0)
	find := func(what, ahead string, at int, want uint64, e api.Errno) {
		t.Helper()
		checkFind(t, what, whole(ahead, plain("a", 0, at)), "a", want, 0, e)
	}
	find("just ahead", ahead, 0, 256, api.OK)
	for _, at := range []int{1, 2, 225, 226, 227, 255, 256, 257, 302, 303, 325, 1 << 16, 1<<32 - 1, 1<<32 - 30, 1<<32 - 256} {
		find("no header", ahead, at, 0, api.ErrZip)
	}
	bare := none(226) + own("", "", 0)
	checkFind(t, "no texts and no bytes", whole(bare, plain("", 0, 226)), "", 256, 0, api.OK)
	checkFind(t, "no texts and no bytes, cut", whole(bare[:255], plain("", 0, 226)), "", 0, 0, api.ErrZip)
	for at := range 4 {
		find("no mark", put(ahead, at, "\xff"), 0, 0, api.ErrZip)
	}
	for n := range len(ahead) {
		find("cut", ahead[:n], 0, 0, api.ErrZip)
	}
	// The header goes on into the list, and is right there but for that.
	entry := listed(plain("a", 0, 0), own("a", none(225), 0), "")
	into := put(entry, 42, four(47))
	checkFind(t, "within the list", into+last(1, len(into), 0, ""), "a", 0, 0, api.ErrZip)
	behind := listed(plain("a", 0, 47), "", "") + own("a", none(178), 0)
	checkFind(t, "behind the list", behind+last(1, 47, 0, ""), "a", 0, 0, api.ErrZip)
}

// P7.2: what a header says beside its mark, its method and its texts' sizes isn't asked.
func TestFindUnnamed(t *testing.T) {
	b := one("xy")
	for _, at := range []int{4, 6, 10, 12, 14, 16, 18, 20, 22, 24} {
		checkFind(t, "unnamed", put(b, at, "\xff\xff"), "a", 256, 2, api.OK)
	}
	checkFind(t, "any extra part", put(b, 31, strings.Repeat("PK\x01\x02e", 45)), "a", 256, 2, api.OK)
}

// P7.2: the header has another name.
func TestFindOtherName(t *testing.T) {
	for _, name := range []string{"", "b", "A", "aa", "\x00", strings.Repeat("a", 226)} {
		extra := none(226 - len(name))
		checkFind(t, "other", whole(own(name, extra, 2)+"xy", plain("a", 2, 0)), "a", 0, 0, api.ErrZip)
		checkFind(t, "the list's name counts", whole(own("a", none(225), 2)+"xy", plain(name, 2, 0)), "a", 0, 0, api.ErrEntry)
		checkFind(t, "the list's name counts", whole(own("a", none(225), 2)+"xy", plain(name, 2, 0)), name, 0, 0, api.ErrZip)
	}
	// The name would be right, but for a byte of it that is the list's first.
	ahead := own("aP", "", 0)
	checkFind(t, "it goes into the list", whole(ahead[:31], plain("aP", 0, 0)), "aP", 0, 0, api.ErrZip)
}

// P7.2: the bytes lie ahead of the list, and are as many as they take.
func TestFindBytes(t *testing.T) {
	ahead := own("a", none(225), 2)
	find := func(what, ahead string, size, stored int, want, wantSize uint64, e api.Errno) {
		t.Helper()
		entry := zip.Entry{Name: "a", Size: uint64(size), Stored: uint64(stored)}
		checkFind(t, what, whole(ahead, entry), "a", want, wantSize, e)
	}
	find("just ahead of the list", ahead+"xy", 2, 2, 256, 2, api.OK)
	find("a byte more", ahead+"xyz", 2, 2, 256, 2, api.OK)
	find("fewer than the header says", ahead+"xy", 1, 1, 256, 1, api.OK)
	find("none", ahead+"xy", 0, 0, 256, 0, api.OK)
	find("none, at the list's beginning", ahead, 0, 0, 256, 0, api.OK)
	find("one too many", ahead+"xy", 3, 3, 0, 0, api.ErrZip)
	find("one too many, none there", ahead, 1, 1, 0, 0, api.ErrZip)
	find("many too many", ahead+"xy", 1<<32-1, 1<<32-1, 0, 0, api.ErrZip)
	find("up to the archive's end", ahead+"xy", 2+47+22, 2+47+22, 0, 0, api.ErrZip)
	find("it takes more", ahead+"xyz", 2, 3, 0, 0, api.ErrZip)
	find("it takes fewer", ahead+"xyz", 3, 2, 0, 0, api.ErrZip)
	find("it takes none", ahead+"xyz", 3, 0, 0, 0, api.ErrZip)
	find("it has none", ahead+"xyz", 0, 3, 0, 0, api.ErrZip)
	find("it takes 2^16 more", ahead+"xyz", 3, 3+1<<16, 0, 0, api.ErrZip)
	find("no bytes, behind the list's beginning", put(ahead, 28, two(226)), 0, 0, 0, 0, api.ErrZip)
	find("no bytes, at a page's beginning within the list", put(ahead+none(226), 28, two(225+256)), 0, 0, 0, 0, api.ErrZip)
	find("the extra part goes far past the end", put(ahead, 28, two(65535)), 0, 0, 0, 0, api.ErrZip)
}

// P7.2: bytes that don't begin at a page's beginning, and what is named ahead of that.
func TestFindUnlined(t *testing.T) {
	for n := range 600 {
		want, e := uint64(31+n), api.OK
		if want%256 != 0 {
			want, e = 0, api.ErrUnlined
		}
		ahead := own("a", none(n), 0)
		checkFind(t, "lined or not", whole(ahead, plain("a", 0, 0)), "a", want, 0, e)
		checkFind(t, "too many", whole(ahead, plain("a", 1, 0)), "a", 0, 0, api.ErrZip)
		checkFind(t, "it takes more", whole(ahead+"x", zip.Entry{Name: "a", Stored: 1}), "a", 0, 0, api.ErrZip)
	}
	// The place in the archive counts, not the header's.
	checkFind(t, "bytes ahead", whole("x"+own("a", none(225), 2)+"xy", plain("a", 2, 1)), "a", 0, 0, api.ErrUnlined)
	checkFind(t, "bytes ahead", whole("x"+own("a", none(224), 2)+"xy", plain("a", 2, 1)), "a", 256, 2, api.OK)
	checkFind(t, "at 128", whole(own("a", none(97), 2)+"xy", plain("a", 2, 0)), "a", 0, 0, api.ErrUnlined)
}

// P7.3: an archive, byte for byte.
func TestMake(t *testing.T) {
	checkMake(t, "no files", last(0, 0, 0, ""), api.OK)
	checkMake(t, "one", one("xy"), api.OK, file("a", "xy"))
	checkMake(t, "no bytes", one(""), api.OK, file("a", ""))
	checkMake(t, "no bytes", one(""), api.OK, zip.File{Name: "a"})
	name := "lib/\x00\xff.so"
	first := own("a", none(225), 256) + strings.Repeat("d", 256)
	second := own(name, none(256-30-len(name)), 3) + "PK\x05"
	third := own("a", none(222), 300) + strings.Repeat("e", 300)
	want := whole(first+second+third, plain("a", 256, 0), plain(name, 3, 512), plain("a", 300, 771))
	checkMake(t, "three", want, api.OK, file("a", first[256:]), file(name, "PK\x05"), file("a", third[253:]))
}

// P7.3: no extra part, where the bytes begin at a page's beginning without.
func TestMakeNoExtra(t *testing.T) {
	name := strings.Repeat("n", 226)
	checkMake(t, "none", whole(own(name, "", 1)+"x", plain(name, 1, 0)), api.OK, file(name, "x"))
	checkMake(t, "the most", whole(own(name+"n", none(255), 1)+"x", plain(name+"n", 1, 0)), api.OK, file(name+"n", "x"))
	checkMake(t, "one", whole(own(name[1:], none(1), 1)+"x", plain(name[1:], 1, 0)), api.OK, file(name[1:], "x"))
}

// P7.3: names of no bytes, of as many as may be and one more.
func TestMakeNames(t *testing.T) {
	name := strings.Repeat("\xff", 256)
	checkMake(t, "256", whole(own(name, none(226), 1)+"x", plain(name, 1, 0)), api.OK, file(name, "x"))
	checkMake(t, "257", "", api.ErrPath, file(name+"n", "x"))
	checkMake(t, "none", "", api.ErrPath, file("", "x"))
	checkMake(t, "the second", "", api.ErrPath, file("a", "x"), file("", "x"))
	checkMake(t, "the second", "", api.ErrPath, file("a", "x"), file(name+"n", ""))
}

// many: so many files of no bytes and one name.
func many(n int) []zip.File {
	l := make([]zip.File, n)
	for i := range l {
		l[i].Name = "a"
	}
	return l
}

// P7.3: as many files as may be, and one more, whatever is wrong with them.
func TestMakeMany(t *testing.T) {
	b, e := zip.Make(many(256))
	if l, listErr := zip.List(b); e != api.OK || listErr != api.OK || len(l) != 256 || l[255].At != 255*256 {
		t.Errorf("256: %v, %v, %d", e, listErr, len(l))
	}
	checkMake(t, "257", "", api.ErrMany, many(257)...)
	checkMake(t, "without names", "", api.ErrMany, make([]zip.File, 257)...)
	great := many(257)
	great[0].Data = make([]byte, api.MaxFile+1)
	checkMake(t, "and too great", "", api.ErrMany, great...)
}

// P7.3: as great as may be, and a byte greater.
func TestMakeGreatest(t *testing.T) {
	most := api.MaxFile - 256 - 47 - 22
	data := strings.Repeat("d", api.MaxFile+1)
	checkMake(t, "most", one(data[:most]), api.OK, file("a", data[:most]))
	checkFind(t, "most", one(data[:most]), "a", 256, uint64(most), api.OK)
	for _, size := range []int{most + 1, most + 22, most + 23, most + 69, most + 70, api.MaxFile - 1, api.MaxFile, api.MaxFile + 1} {
		checkMake(t, "more", "", api.ErrBig, file("a", data[:size]))
		checkMake(t, "more, the second", "", api.ErrBig, file("b", ""), file("a", data[:size]))
	}
	// Each name and each file counts, and the bytes between them.
	size := most - 800
	first := own("a", none(225), size) + data[:size]
	extra := none((1<<18 - len(first) - 32) % 256)
	room := api.MaxFile - len(first) - 32 - len(extra) - 47 - 48 - 22
	both := whole(first+own("bc", extra, room)+data[:room], plain("a", size, 0), plain("bc", room, len(first)))
	if len(both) != api.MaxFile || room < 1 {
		t.Fatal(len(both), room)
	}
	checkMake(t, "most of two", both, api.OK, file("a", data[:size]), file("bc", data[:room]))
	checkMake(t, "more of two", "", api.ErrBig, file("a", data[:size]), file("bc", data[:room+1]))
	checkMake(t, "a third", "", api.ErrBig, file("a", data[:size]), file("bc", data[:room]), file("c", ""))
}

// P7.3: file by file, so an earlier file's error is named first, and its name's ahead of its bytes'.
func TestMakeFirstError(t *testing.T) {
	great := strings.Repeat("d", api.MaxFile+1)
	checkMake(t, "name and bytes", "", api.ErrPath, file("", great))
	checkMake(t, "name ahead", "", api.ErrPath, file("", ""), file("a", great))
	checkMake(t, "bytes ahead", "", api.ErrBig, file("a", great), file("", ""))
	checkMake(t, "the archive so far", "", api.ErrBig, file("a", great[:1<<17]), file("a", great[:1<<17]), file("", ""))
	checkMake(t, "the archive so far is small", "", api.ErrPath, file("a", great[:1<<17]), file("", ""), file("a", great[:1<<17]))
	checkMake(t, "with its list", "", api.ErrBig, file("a", great[:api.MaxFile-256-47-22+1]), file("", ""))
	checkMake(t, "without its list", "", api.ErrPath, file("a", great[:api.MaxFile-256-47-22]), file("", ""))
}

// P7.4: what was made is found, each file at a page's beginning, the first of a name.
func TestMadeIsFound(t *testing.T) {
	files := []zip.File{file("a", "x"), file("b", ""), file("a", "yy"), file("c/d", string(make([]byte, 1000))), file("PK\x05\x06", last(0, 0, 0, ""))}
	b, e := zip.Make(files)
	if e != api.OK {
		t.Fatal(e)
	}
	for i, one := range files {
		if i == 2 {
			continue
		}
		at, size, e := zip.Find(b, one.Name)
		if e != api.OK || at%256 != 0 || at+size > uint64(len(b)) || !bytes.Equal(b[at:at+size], one.Data) {
			t.Errorf("%q: %d, %d, %v", one.Name, at, size, e)
		}
	}
}

// What is handed in isn't changed and isn't shared, and what lies behind its length isn't read.
func TestMemory(t *testing.T) {
	data := []byte("xyz")
	files := []zip.File{{Name: "a", Data: data[:2]}, {Name: "b"}}
	b, _ := zip.Make(files[:1])
	want := one("xy")
	data[0] = 'q'
	if string(b) != want || string(data) != "qyz" || files[1].Name != "b" {
		t.Errorf("%q, %q, %q", b, data, files)
	}
	long := append([]byte(want), last(0, 0, 0, "")...)
	before := string(long)
	l, e := zip.List(long[:len(want)])
	at, size, findErr := zip.Find(long[:len(want)], "a")
	if string(long) != before {
		t.Error("the bytes have changed")
	}
	for i := range long {
		long[i] = 0
	}
	if !slices.Equal(l, []zip.Entry{plain("a", 2, 0)}) || e != api.OK || at != 256 || size != 2 || findErr != api.OK {
		t.Errorf("%v, %v, %d, %d, %v", l, e, at, size, findErr)
	}
	if _, e := zip.List([]byte(want)[:len(want)-1]); e != api.ErrZip {
		t.Errorf("its last byte lies behind it: %v", e)
	}
}
