package maker

// texts is a library's strings, each of them once.
type texts struct {
	bytes []byte
	known []text
}

// text is one of them, and where it begins.
type text struct {
	says string
	at   uint64
}

// newTexts: strings among which there is the empty one alone, ahead of all, as is the custom.
func newTexts() texts { return texts{bytes: []byte{0}, known: []text{{}}} }

// at: where a text begins: it is laid behind the others, if it isn't there yet.
func (t *texts) at(s string) uint64 {
	if one, ok := find(t.known, func(x text) bool { return x.says == s }); ok {
		return one.at
	}
	one := text{s, uint64(len(t.bytes))}
	t.known = append(t.known, one)
	t.bytes = append(append(t.bytes, s...), 0)
	return one.at
}
