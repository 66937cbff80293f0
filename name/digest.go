package name

import "entrepot/api"

const scheme = "sha256:"

// digest reads the text of a digest, and keeps the digest: a rune that is no digit spoils it, but then nobody asks for it.
type digest struct {
	id    api.ID
	begun int // runes of the scheme
	bytes int // bytes of the id
}

func (m *digest) inScheme(c char) state {
	if c != char(scheme[m.begun]) {
		return nil
	}
	m.begun++
	if m.begun < len(scheme) {
		return m.inScheme
	}
	return m.high
}

func (m *digest) high(c char) state {
	m.id[m.bytes] = byte(c.digit()) << 4
	return c.pass(char.isDigit, m.low)
}

func (m *digest) low(c char) state {
	m.id[m.bytes] |= byte(c.digit())
	m.bytes++
	if m.bytes < len(m.id) {
		return c.pass(char.isDigit, m.high)
	}
	return c.pass(char.isDigit, char.ends)
}
