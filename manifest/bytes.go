package manifest

import (
	"bytes"

	"chronicle/api"
	"chronicle/octet"
)

const (
	lengthAt = 1 // where the body's length stands, behind the mark
	bodyAt   = 9 // where the body begins, behind its length and the sum
)

// Encode writes a manifest.
func Encode(m api.Manifest) ([]byte, api.Errno) {
	if e := Check(m); e != api.OK {
		return nil, e
	}
	w := octet.NewWriter()
	w.Uvarint(uint64(m.Id))
	w.Uvarint(uint64(m.NextSeg))
	w.Uvarint(uint64(m.Next))
	w.Uvarint(uint64(m.Mark))
	w.Uvarint(uint64(m.Clock))
	w.Uvarint(uint64(len(m.Segs)))
	for _, seg := range m.Segs {
		w.Uvarint(uint64(seg))
	}
	w.Uvarint(uint64(len(m.Prods)))
	for _, p := range m.Prods {
		w.Uvarint(uint64(p.Pid))
		w.Uvarint(uint64(p.Seq))
		w.Uvarint(uint64(p.Off))
	}
	return framed(api.ManifestMark, w.Bytes()), api.OK
}

// Decode reads one.
func Decode(b []byte) (api.Manifest, api.Errno) {
	m := readManifest(bodyIn(b))
	// What was read is held against the bytes by writing it anew: so mark, length, sum and all that may be wrong in the body are looked at once.
	if again, e := Encode(m); e != api.OK || !bytes.Equal(again, b) {
		return api.Manifest{}, api.ErrDamaged
	}
	return m, api.OK
}

// readManifest is the manifest that a right one's body tells, and of any other bytes some manifest.
func readManifest(body []byte) api.Manifest {
	r := octet.NewReader(body)
	m := api.Manifest{
		Id:      int(r.Uvarint()),
		NextSeg: int(r.Uvarint()),
		Next:    int64(r.Uvarint()),
		Mark:    int64(r.Uvarint()),
		Clock:   int64(r.Uvarint()),
	}
	for range min(r.Uvarint(), api.MaxSegs) {
		m.Segs = append(m.Segs, int(r.Uvarint()))
	}
	for range min(r.Uvarint(), api.MaxProds) {
		m.Prods = append(m.Prods, api.Prod{Pid: int64(r.Uvarint()), Seq: int64(r.Uvarint()), Off: int64(r.Uvarint())})
	}
	return m
}

// EncodeCatalogue writes a catalogue.
func EncodeCatalogue(c api.Catalogue) ([]byte, api.Errno) {
	if e := CheckCatalogue(c); e != api.OK {
		return nil, e
	}
	w := octet.NewWriter()
	w.Uvarint(uint64(c.NextId))
	w.Uvarint(uint64(len(c.Topics)))
	for _, t := range c.Topics {
		w.Uvarint(uint64(t.Id))
		w.Text(t.Name)
		w.Uvarint(uint64(t.Limit))
		w.Uvarint(uint64(t.Horizon))
	}
	return framed(api.CatalogueMark, w.Bytes()), api.OK
}

// DecodeCatalogue reads one.
func DecodeCatalogue(b []byte) (api.Catalogue, api.Errno) {
	c := readCatalogue(bodyIn(b))
	// As of a manifest: what is written anew tells all that may be wrong.
	if again, e := EncodeCatalogue(c); e != api.OK || !bytes.Equal(again, b) {
		return api.Catalogue{}, api.ErrDamaged
	}
	return c, api.OK
}

// readCatalogue is the catalogue that a right one's body tells, and of any other bytes some catalogue.
func readCatalogue(body []byte) api.Catalogue {
	r := octet.NewReader(body)
	c := api.Catalogue{NextId: int(r.Uvarint())}
	for range min(r.Uvarint(), api.MaxTopics) {
		c.Topics = append(c.Topics, api.TopicEntry{
			Id:      int(r.Uvarint()),
			Name:    r.Text(api.MaxTopic),
			Limit:   int(r.Uvarint()),
			Horizon: int64(r.Uvarint()),
		})
	}
	return c
}

// framed is a body behind its mark, its length and the sum of both.
func framed(mark byte, body []byte) []byte {
	w := octet.NewWriter()
	w.Byte(mark)
	w.U32(uint32(len(body)))
	w.U32(octet.Extend(octet.Sum(w.Bytes()[lengthAt:]), body))
	w.Raw(body)
	return w.Bytes()
}

// bodyIn is where a body stands in such bytes; none, if they end ahead of it.
func bodyIn(b []byte) []byte { return b[min(bodyAt, len(b)):] }
