package media_test

import (
	"bytes"
	"math/big"
	"slices"
	"testing"

	"entrepot/api"
	"entrepot/media"
)

// The limits and kinds of the chapter, in numbers of the tests' own.
const (
	image      = 3
	index      = 4
	mostBytes  = 4096
	mostLayers = 16
	mostSubs   = 8
)

// number, text, desc, descs and encoding are what the chapters say of bytes.
func number(n int) []byte {
	if n <= 191 {
		return []byte{byte(n)}
	}
	b := big.NewInt(int64(n)).Bytes()
	return append([]byte{byte(191 + len(b))}, b...)
}

func text(s string) []byte {
	return append(number(len(s)), s...)
}

func desc(d api.Desc) []byte {
	return slices.Concat(number(d.Media), d.ID[:], number(d.Size), text(d.Platform))
}

func descs(list []api.Desc) []byte {
	b := number(len(list))
	for _, d := range list {
		b = append(b, desc(d)...)
	}
	return b
}

func encoding(m api.Manifest) []byte {
	b := slices.Concat(number(77), number(m.Kind), text(m.Title))
	if m.Kind == index {
		return append(b, descs(m.Subs)...)
	}
	return slices.Concat(b, desc(m.Config), descs(m.Layers))
}

// refusal is the error of Encode, as the chapter defines it.
func refusal(m api.Manifest) api.Errno {
	c := m.Config
	empty := c.Media == 0 && c.ID == [32]byte{} && c.Size == 0 && c.Platform == ""
	if !(m.Kind == image && len(m.Subs) == 0 || m.Kind == index && empty && len(m.Layers) == 0) {
		return api.ErrMedia
	}
	for _, d := range slices.Concat([]api.Desc{c}, m.Layers, m.Subs) {
		if d.Media < 0 || d.Size < 0 {
			return api.ErrRange
		}
	}
	if len(m.Layers) > mostLayers || len(m.Subs) > mostSubs || len(encoding(m)) > mostBytes {
		return api.ErrLong
	}
	return api.OK
}

// parser reads bytes as the chapters say; the first fault ends it by a panic.
type parser struct {
	b  []byte
	at int
}

func parse(b []byte) (m api.Manifest, f api.Fault) {
	if len(b) > mostBytes {
		return m, api.Fault{Err: api.ErrLong, At: mostBytes}
	}
	defer func() {
		if x := recover(); x != nil {
			m, f = api.Manifest{}, x.(api.Fault)
		}
	}()
	p := &parser{b: b}
	p.expect(p.num() == 77, api.ErrMedia, 0)
	m.Kind = p.num()
	p.expect(m.Kind == image || m.Kind == index, api.ErrMedia, 0)
	m.Title = p.text()
	if m.Kind == image {
		m.Config = p.desc()
		m.Layers = p.descs(mostLayers)
	} else {
		m.Subs = p.descs(mostSubs)
	}
	p.expect(p.at == len(b), api.ErrLong, p.at)
	return m, f
}

func (p *parser) expect(holds bool, err api.Errno, at int) {
	if !holds {
		panic(api.Fault{Err: err, At: at})
	}
}

func (p *parser) num() int {
	rest := p.b[p.at:]
	p.expect(len(rest) > 0, api.ErrShort, p.at)
	if rest[0] <= 191 {
		p.at++
		return int(rest[0])
	}
	p.expect(rest[0] <= 199, api.ErrForm, p.at)
	k := int(rest[0]) - 191
	p.expect(len(rest) > k, api.ErrShort, p.at)
	n := new(big.Int).SetBytes(rest[1 : 1+k])
	p.expect(n.IsInt64() && bytes.Equal(number(int(n.Int64())), rest[:1+k]), api.ErrForm, p.at)
	p.at += 1 + k
	return int(n.Int64())
}

func (p *parser) text() string {
	begin := p.at
	n := p.num()
	p.expect(n <= 4096, api.ErrLong, begin)
	p.expect(n <= len(p.b)-p.at, api.ErrShort, begin)
	p.at += n
	return string(p.b[p.at-n : p.at])
}

func (p *parser) desc() api.Desc {
	kind := p.num()
	p.expect(len(p.b)-p.at >= 32, api.ErrShort, p.at)
	id := api.ID(p.b[p.at : p.at+32])
	p.at += 32
	size := p.num()
	return api.Desc{Media: kind, ID: id, Size: size, Platform: p.text()}
}

func (p *parser) descs(most int) []api.Desc {
	begin := p.at
	n := p.num()
	p.expect(n <= most, api.ErrLong, begin)
	var list []api.Desc
	for len(list) < n {
		list = append(list, p.desc())
	}
	return list
}

// same reports whether two manifests are the same, where no list and an empty one are.
func same(a, b api.Manifest) bool {
	return a.Kind == b.Kind && a.Title == b.Title && a.Config == b.Config && slices.Equal(a.Layers, b.Layers) && slices.Equal(a.Subs, b.Subs)
}

// checkEncode encodes a manifest and, if that is possible, decodes what came.
func checkEncode(t *testing.T, m api.Manifest) {
	t.Helper()
	want := refusal(m)
	got, err := media.Encode(m)
	if err != want {
		t.Fatalf("Encode(%.300v) = %v, not %v", m, err, want)
	}
	if err != api.OK {
		if len(got) != 0 {
			t.Fatalf("Encode(%.300v) = %v beside %v", m, got, err)
		}
		return
	}
	if !bytes.Equal(got, encoding(m)) {
		t.Fatalf("Encode(%v) = %v, not %v", m, got, encoding(m))
	}
	if back, f := media.Decode(got); !same(back, m) || f != (api.Fault{}) {
		t.Fatalf("Decode(Encode(%v)) = %v, %v", m, back, f)
	}
}

// checkDecode decodes bytes and, if that is possible, encodes what came. It reports whether it was.
func checkDecode(t *testing.T, b []byte) bool {
	t.Helper()
	want, fault := parse(b)
	got, f := media.Decode(b)
	if !same(got, want) || f != fault {
		t.Fatalf("Decode(%v) = %v, %v, not %v, %v", b, got, f, want, fault)
	}
	if f != (api.Fault{}) {
		return false
	}
	if back, err := media.Encode(got); !bytes.Equal(back, b) || err != api.OK {
		t.Fatalf("%v is decoded to %v, which is encoded as %v, %v", b, got, back, err)
	}
	return true
}

// checkFault decodes bytes and expects a fault of them, the same one as the tests' own parser.
func checkFault(t *testing.T, b []byte, err api.Errno, at int) {
	t.Helper()
	if m, f := media.Decode(b); !same(m, api.Manifest{}) || f != (api.Fault{Err: err, At: at}) {
		t.Errorf("Decode(%.300v) = %v, %v, not %v at %d", b, m, f, err, at)
	}
	checkDecode(t, b)
}
