package maker

import (
	"messuage/api"
	"messuage/apply"
	"messuage/aps"
	"messuage/relr"
	"messuage/rels"
)

// moved: the relocations of Rels, if the data begin at a place.
func moved(s api.Spec, at uint64) []api.Rel {
	var l []api.Rel
	for _, r := range s.Rels {
		r.At += at
		if kind, _ := apply.Of(s.Machine, r.Type); kind == apply.Relative && r.Has {
			// It may go round, as does what is laid down in the end.
			r.Add += int64(at)
		}
		l = append(l, r)
	}
	return l
}

// packed: the list of relocations in groups, if they are to be packed, and there are any.
func packed(s api.Spec, at uint64) []byte {
	if !s.Packed || len(s.Rels) == 0 {
		return nil
	}
	list, _ := aps.Encode(moved(s, at), s.Rela)
	return list
}

// packedTags: the entries that tell where a packed list begins, and how many bytes it has.
func packedTags(rela bool) (kind, size uint64) {
	if rela {
		return tagPackedRela, tagPackedRelaSize
	}
	return tagPacked, tagPackedSize
}

// putMoves: the relocations but for packed ones: the places of Relr as rows of bits, those of Rels as a plain list.
func (x *draft) putMoves() {
	if len(x.spec.Relr) > 0 {
		x.area(tagRelr, tagRelrSize, x.rows())
		x.say(tagRelrOne, relrSize)
	}
	if x.spec.Packed || len(x.spec.Rels) == 0 {
		return
	}
	list, _ := rels.Encode(moved(x.spec, x.data), x.spec.Rela)
	if x.spec.Rela {
		x.area(tagRela, tagRelaSize, list)
		x.say(tagRelaOne, relaSize)
	} else {
		x.area(tagRel, tagRelSize, list)
		x.say(tagRelOne, relSize)
	}
}

// rows: the places of Relr, as they are told.
func (x *draft) rows() []byte {
	var places []uint64
	for _, at := range x.spec.Relr {
		places = append(places, x.data+at)
	}
	told, _ := relr.Encode(places)
	return told
}
