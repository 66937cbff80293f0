package name_test

import (
	"bytes"
	"encoding/hex"
	"strings"
	"testing"

	"entrepot/api"
	"entrepot/name"
)

// digests returns digests of every kind: none set, all set, each bit alone, mixed ones.
func digests() []api.ID {
	list := []api.ID{{}, [32]byte(bytes.Repeat([]byte{0xFF}, 32)), [32]byte(bytes.Repeat([]byte{0x1F, 0xA9}, 16))}
	for bit := range 256 {
		var id api.ID
		id[bit/8] = 1 << (bit % 8)
		list = append(list, id)
	}
	seed := uint32(1)
	for range 20 {
		var id api.ID
		for i := range id {
			seed = seed*1664525 + 1013904223
			id[i] = byte(seed >> 24)
		}
		list = append(list, id)
	}
	return list
}

// textOf is the text of a digest, as the chapter defines it.
func textOf(id api.ID) string {
	return "sha256:" + hex.EncodeToString(id[:])
}

func checkNoID(t *testing.T, s string, at int) {
	t.Helper()
	if id, f := name.ID(s); id != (api.ID{}) || f != (api.Fault{Err: api.ErrDigest, At: at}) {
		t.Errorf("ID(%q) = %x, %v, not ErrDigest at %d", s, id, f, at)
	}
}

func checkID(t *testing.T, s string, want api.ID) {
	t.Helper()
	if id, f := name.ID(s); id != want || f != (api.Fault{}) {
		t.Errorf("ID(%q) = %x, %v, not %x", s, id, f, want)
	}
}

// P3.3: Text and ID, of the texts of digests.
func TestTexts(t *testing.T) {
	if got := name.Text(api.ID{}); got != "sha256:"+strings.Repeat("0", 64) {
		t.Errorf("the text of noughts is %q", got)
	}
	list := digests()
	for x := range 256 {
		list = append(list, api.ID{byte(x)}, api.ID{31: byte(x)})
	}
	for _, id := range list {
		if got := name.Text(id); got != textOf(id) {
			t.Errorf("Text(%x) = %q", id, got)
		}
		checkID(t, textOf(id), id)
	}
}

// P3.3: ID, of beginnings.
func TestBeginningsOfTexts(t *testing.T) {
	for _, id := range digests() {
		s := textOf(id)
		for n := range len(s) {
			checkNoID(t, s[:n], n)
		}
	}
}

// P3.3: ID, of strings that stop being the text of a digest.
func TestNoTexts(t *testing.T) {
	noughts := strings.Repeat("0", 64)
	cases := []struct {
		s  string
		at int
	}{
		{"", 0},
		{"sha256:", 7},
		{"sha512", 3},
		{"sha256", 6},
		{"sha256;" + noughts, 6},
		{"sha256:A", 7},
		{"sha256:" + strings.Repeat("F", 64), 7},
		{"sha256:" + noughts + "0", 71},
		{"sha256:" + noughts + "\n", 71},
		{"sha256:" + noughts + "\xFF", 71},
		{"sha256:" + noughts + "\u00E9", 71},
		{"sha256:" + noughts + strings.Repeat("0", 1<<16), 71},
		{"sha256:" + strings.Repeat("0", 63), 70},
		{"sha256:" + strings.Repeat("0", 63) + "g", 70},
		{"sha256:" + strings.Repeat("0", 63) + "\u0660", 70},
		{"sha256:" + strings.Repeat("0", 63) + "g0", 70},
		{"sha256::" + noughts, 7},
		{"sha256:0x" + noughts, 8},
		{"sha256:sha256:" + noughts, 7},
		{"SHA256:" + noughts, 0},
		{"Sha256:" + noughts, 0},
		{" sha256:" + noughts, 0},
		{"sha 256:" + noughts, 3},
		{"sha256: " + noughts, 7},
		{"sha256:-" + noughts, 7},
		{noughts, 0},
		{strings.Repeat("0", 71), 0},
		{"\xFF", 0},
		{"s\uFFFD", 1},
		{strings.Repeat("s", 1<<20), 1},
	}
	for _, c := range cases {
		checkNoID(t, c.s, c.at)
	}
}

// P3.3, P3.4: with another byte at any place a text is that of another digest, or none.
func TestChangedTexts(t *testing.T) {
	id := api.ID(bytes.Repeat([]byte{0x1F, 0xA9}, 16))
	good := textOf(id)
	for at := range good {
		for x := range 256 {
			s := good[:at] + string([]byte{byte(x)}) + good[at+1:]
			isDigit := at >= 7 && strings.IndexByte("0123456789abcdef", byte(x)) >= 0
			if s != good && !isDigit {
				checkNoID(t, s, at)
				continue
			}
			got, f := name.ID(s)
			if f != (api.Fault{}) || textOf(got) != s || (got == id) != (s == good) {
				t.Errorf("ID(%q) = %x, %v", s, got, f)
			}
		}
	}
}

// P3.4: no other string is read as a digest: neither with something between, nor without something.
func TestNoOtherText(t *testing.T) {
	pieces := []string{" ", "0", "f", "A", ":", "-", "\x00", "\n", "\u00E9", "\u0660", "\uFFFD", "\xFF", "\u200B"}
	for _, id := range digests()[:20] {
		good := textOf(id)
		if got, f := name.ID(name.Text(id)); got != id || f != (api.Fault{}) {
			t.Errorf("ID(Text(%x)) = %x, %v", id, got, f)
		}
		for at := range len(good) + 1 {
			for _, p := range pieces {
				s := good[:at] + p + good[at:]
				if got, f := name.ID(s); got != (api.ID{}) || f.Err != api.ErrDigest {
					t.Errorf("ID(%q) = %x, %v", s, got, f)
				}
			}
			if at < len(good) {
				s := good[:at] + good[at+1:]
				if got, f := name.ID(s); got != (api.ID{}) || f.Err != api.ErrDigest {
					t.Errorf("ID(%q) = %x, %v", s, got, f)
				}
			}
		}
		if s := strings.ToUpper(good); s != good {
			checkNoID(t, s, 0)
		}
	}
}
