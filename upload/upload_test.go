package upload_test

import (
	"math"
	"slices"
	"strings"
	"testing"

	"entrepot/api"
	"entrepot/upload"
)

const (
	lastNumber = 1 << 20
	longest    = 4096
)

// names are names of repositories, wrong are none.
var (
	names = []string{"a", "0", "library/go_1.2--x", "a__b", "a-b", "a---b.c", "1/2/3/4/5/6/7/8", strings.Repeat("a", 128)}
	wrong = []string{"", "A", "Ab", "a_", "a-", "a___b", "a..b", "a/", "/a", "a//b", "1/2/3/4/5/6/7/8/9", strings.Repeat("a", 129), "a b", "ä", "a\n", "a\x00", "a\xff"}
)

// P9.1: which widths there are; a new table has no sessions, and begins at 1.
func TestNew(t *testing.T) {
	for _, width := range []int{0, 33, -1, 34, 64, 256 + 32, 1<<32 + 1, math.MinInt, math.MaxInt} {
		if x, err := upload.New(width); x != nil || err != api.ErrRange {
			t.Errorf("New(%d) = %v, %v", width, x, err)
		}
	}
	for width := 1; width <= 32; width++ {
		x := newAll(t, width)
		if x.tables[0].Next() != 1 || len(x.tables[0].List()) != 0 {
			t.Errorf("%d: %d, %v", width, x.tables[0].Next(), x.tables[0].List())
		}
		x.check()
	}
}

func refuseLoad(t *testing.T, width, next int, l []api.Session, want api.Errno) {
	t.Helper()
	if x, err := upload.Load(width, next, l); x != nil || err != want {
		t.Errorf("Load(%d, %d, %d sessions) = %v, %v, not %v", width, next, len(l), x, err, want)
	}
}

// sessions are sessions with these numbers.
func sessions(numbers ...int) []api.Session {
	var l []api.Session
	for i, n := range numbers {
		l = append(l, api.Session{N: n, Repo: names[i%len(names)], B: mixed(i*7, uint32(n))})
	}
	return l
}

// P9.1: which widths and next numbers can be loaded, whatever the sessions are.
func TestLoadRange(t *testing.T) {
	for _, l := range [][]api.Session{nil, sessions(1), sessions(0), make([]api.Session, 9)} {
		for _, width := range []int{0, 33, -1, 64, 256 + 1, math.MinInt, math.MaxInt} {
			for _, next := range []int{1, 2, lastNumber + 1, 0} {
				refuseLoad(t, width, next, l, api.ErrRange)
			}
		}
		for _, next := range []int{0, -1, lastNumber + 2, lastNumber * 2, 1<<32 + 1, math.MinInt, math.MaxInt} {
			for _, width := range []int{1, 32, 0} {
				refuseLoad(t, width, next, l, api.ErrRange)
			}
		}
	}
	for width := 1; width <= 32; width++ {
		for _, next := range []int{1, 2, 9, lastNumber, lastNumber + 1} {
			loadAll(t, width, next, nil).check()
			loadAll(t, width, next, []api.Session{}).check()
		}
	}
}

// P9.1: the numbers of sessions ascend from 1 on, and are below the next number.
func TestLoadNumbers(t *testing.T) {
	for _, x := range []struct {
		next    int
		numbers []int
	}{
		{2, []int{1}}, {3, []int{1}}, {3, []int{2}}, {3, []int{1, 2}}, {9, []int{1, 2, 3, 4, 5, 6, 7, 8}}, {100, []int{1, 5, 99}},
		{lastNumber + 1, []int{1, lastNumber}}, {lastNumber, []int{lastNumber - 1}}, {100, []int{92, 93, 94, 95, 96, 97, 98, 99}},
	} {
		y := loadAll(t, 32, x.next, sessions(x.numbers...))
		y.check()
		y.reload()
		y.check()
	}
	for _, x := range []struct {
		next    int
		numbers []int
	}{
		{1, []int{1}}, {1, []int{2}}, {2, []int{2}}, {2, []int{1, 2}}, {5, []int{0}}, {5, []int{-1}}, {5, []int{0, 1}}, {5, []int{-1, 1}}, {5, []int{1, 1}}, {5, []int{2, 1}},
		{5, []int{1, 3, 2}}, {5, []int{1, 3, 3}}, {5, []int{1, 2, 5}}, {5, []int{1, 2, 6}}, {5, []int{math.MinInt}}, {5, []int{math.MaxInt}}, {5, []int{3, 1, 4}}, {5, []int{1, 0, 2}},
		{lastNumber + 1, []int{lastNumber + 1}}, {lastNumber, []int{lastNumber}}, {100, []int{1, 2, 3, 4, 5, 6, 7, 7}},
	} {
		refuseLoad(t, 32, x.next, sessions(x.numbers...), api.ErrArg)
	}
}

// P9.1: at most eight sessions are loaded.
func TestLoadMany(t *testing.T) {
	for n := range 30 {
		var numbers []int
		for i := range n {
			numbers = append(numbers, 2*i+1)
		}
		if l := sessions(numbers...); n <= 8 {
			loadAll(t, 4, 1000, l).check()
		} else {
			refuseLoad(t, 4, 1000, l, api.ErrArg)
		}
	}
}

// P9.1: each session has the name of a repository, and at most 4,096 bytes, wherever it is in the list.
func TestLoadSessions(t *testing.T) {
	for i := range 4 {
		for _, repo := range names {
			l := sessions(1, 2, 3, 4)
			l[i].Repo = repo
			loadAll(t, 32, 5, l).check()
		}
		for _, repo := range wrong {
			l := sessions(1, 2, 3, 4)
			l[i].Repo = repo
			refuseLoad(t, 32, 5, l, api.ErrArg)
		}
		for _, n := range []int{0, 1, 2, longest - 1, longest, longest + 1, longest + 2, 2 * longest, 1 << 16} {
			l := sessions(1, 2, 3, 4)
			l[i].B = mixed(n, 5)
			if n <= longest {
				loadAll(t, 32, 5, l).check()
			} else {
				refuseLoad(t, 32, 5, l, api.ErrArg)
			}
		}
	}
}

// invalid are tables that neither New nor Load made.
func invalid(t *testing.T) []*upload.Table {
	t.Helper()
	x := loadAll(t, 32, 3, sessions(1, 2))
	copied := *x.tables[0]
	return []*upload.Table{nil, {}, new(upload.Table), &copied}
}

// P9.1 to P9.4: a table that is nil, or that neither New nor Load made, a copied one too: ErrNil is ahead of all other errors.
func TestInvalid(t *testing.T) {
	for i, x := range invalid(t) {
		if x.Next() != 0 || len(x.List()) != 0 {
			t.Errorf("%d: %d, %v", i, x.Next(), x.List())
		}
		for _, repo := range []string{"a", "A", ""} {
			if n, err := x.Start(repo); n != 0 || err != api.ErrNil {
				t.Errorf("%d: Start: %d, %v", i, n, err)
			}
		}
		for _, n := range []int{0, 1, 2, 3, -1} {
			for _, offset := range []int{0, 7, -1} {
				for _, b := range [][]byte{nil, {1}, make([]byte, longest+1)} {
					if length, err := x.Write(n, offset, b); length != 0 || err != api.ErrNil {
						t.Errorf("%d: Write: %d, %v", i, length, err)
					}
				}
			}
			if length, err := x.Offset(n); length != 0 || err != api.ErrNil {
				t.Errorf("%d: Offset: %d, %v", i, length, err)
			}
			for _, id := range []api.ID{{}, digest(nil, 32), digest(mixed(7, 2), 32)} {
				if s, err := x.Finish(n, id); !same(s, api.Session{}) || err != api.ErrNil {
					t.Errorf("%d: Finish: %v, %v", i, s, err)
				}
			}
			if err := x.Cancel(n); err != api.ErrNil {
				t.Errorf("%d: Cancel: %v", i, err)
			}
		}
	}
}

// P9.1: a copy of a table, which is invalid, does nothing to the table.
func TestCopied(t *testing.T) {
	x := loadAll(t, 32, 3, sessions(1, 2))
	copied := *x.tables[0]
	copied.Start("a")
	copied.Write(1, 0, []byte("a"))
	copied.Finish(1, digest(nil, 32))
	copied.Cancel(2)
	x.check()
}

// P9.2, P9.3, P9.4: the chapter's examples.
func TestExamples(t *testing.T) {
	x := newAll(t, 32)
	if n, err := x.start("r"); n != 1 || err != api.OK {
		t.Error(n, err)
	}
	x.refuseStart("R", api.ErrName)
	for _, w := range []struct {
		offset int
		b      string
		want   int
		err    api.Errno
	}{{0, "a", 1, api.OK}, {0, "b", 1, api.ErrOffset}, {1, "b", 2, api.OK}} {
		if n, err := x.write(1, w.offset, []byte(w.b)); n != w.want || err != w.err {
			t.Error(w, n, err)
		}
	}
	if n, err := x.offset(1); n != 2 || err != api.OK {
		t.Error(n, err)
	}
	if n, err := x.offset(2); n != 0 || err != api.ErrSession {
		t.Error(n, err)
	}
	d := digest([]byte("ab"), 32)
	x.refuseFinish(1, api.ID{}, api.ErrDigest)
	if s, err := x.finish(1, d); s.N != 1 || s.Repo != "r" || string(s.B) != "ab" || err != api.OK {
		t.Error(s, err)
	}
	x.refuseFinish(1, d, api.ErrSession)
	if n, err := x.start("r"); n != 2 || err != api.OK || x.cancel(2) != api.OK {
		t.Error(n, err)
	}
	if y := x.tables[0]; len(y.List()) != 0 || y.Next() != 3 {
		t.Error(y.List(), y.Next())
	}
	refuseLoad(t, 32, 1, sessions(1), api.ErrArg)
}

// P9.2: a session is of its repository, and has no bytes; what is no name starts none.
func TestStart(t *testing.T) {
	for _, repo := range names {
		x := newAll(t, 32)
		for i := range 3 {
			if n, err := x.start(repo); n != i+1 || err != api.OK {
				t.Error(repo, n, err)
			}
			x.check()
			for _, no := range wrong {
				x.refuseStart(no, api.ErrName)
			}
		}
	}
}

// P9.2: there are eight sessions at most; one that ends makes room for another.
func TestFull(t *testing.T) {
	x := newAll(t, 32)
	for i := range 8 {
		x.begin(names[i], mixed(i, 1))
	}
	for round := range 20 {
		x.refuseStart("a", api.ErrFull)
		x.refuseStart("A", api.ErrName)
		s := x.m.sessions[round*5%8]
		if round%2 == 0 {
			x.cancel(s.N)
		} else {
			x.finish(s.N, digest(s.B, 32))
		}
		x.check()
		if n, err := x.start("again"); n != 9+round || err != api.OK {
			t.Error(n, err)
		}
		x.check()
	}
}

// P9.2: the last number is 2^20; ErrName and ErrFull are ahead of ErrCount.
func TestCount(t *testing.T) {
	x := loadAll(t, 32, lastNumber-1, sessions(3))
	for _, want := range []int{lastNumber - 1, lastNumber} {
		if n, err := x.start("a"); n != want || err != api.OK {
			t.Error(n, err)
		}
		x.check()
	}
	for range 3 {
		x.refuseStart("a", api.ErrCount)
		x.refuseStart("A", api.ErrName)
		x.reload()
	}
	for _, n := range []int{3, lastNumber, lastNumber - 1} {
		x.cancel(n)
		x.refuseStart("a", api.ErrCount)
	}
	y := loadAll(t, 32, lastNumber+1, sessions(1, 2, 3, 4, 5, 6, 7, lastNumber))
	y.refuseStart("a", api.ErrFull)
	y.refuseStart("", api.ErrName)
	y.cancel(5)
	y.refuseStart("a", api.ErrCount)
}

// P9.2: all numbers there are, one after the other, none of them twice, whatever becomes of the sessions.
func TestNumbers(t *testing.T) {
	x, _ := upload.New(1)
	none := digest(nil, 1)
	for want := 1; want <= lastNumber; want++ {
		if n, err := x.Start("a"); n != want || err != api.OK || x.Next() != want+1 {
			t.Fatal(n, err, x.Next())
		}
		if want%64 == 0 {
			if _, err := x.Finish(want, none); err != api.OK {
				t.Fatal(want, err)
			}
		} else if err := x.Cancel(want); err != api.OK {
			t.Fatal(want, err)
		}
	}
	if n, err := x.Start("a"); n != 0 || err != api.ErrCount || x.Next() != lastNumber+1 {
		t.Error(n, err, x.Next())
	}
}

// P9.3, P9.4: there is no session under a number that is not there, not there yet, or not there any more.
func TestNoSession(t *testing.T) {
	x := loadAll(t, 32, 50, sessions(3, 7, 9, 20, 48))
	for n := -3; n < 60; n++ {
		x.noSession(n)
	}
	for _, n := range []int{math.MinInt, math.MaxInt, lastNumber, 1<<32 + 3, -7} {
		x.noSession(n)
	}
	for _, n := range []int{9, 48, 3} {
		x.cancel(n)
		x.noSession(n)
	}
	x.finish(20, digest(x.m.sessions[1].B, 32))
	x.noSession(20)
}

// noSession asks for a session n, if the model has none, by all calls.
func (x *all) noSession(n int) {
	x.t.Helper()
	if x.m.find(n) >= 0 {
		return
	}
	for _, offset := range []int{0, 1, -1} {
		for _, b := range [][]byte{nil, {1}, make([]byte, longest+1)} {
			if length, err := x.write(n, offset, b); length != 0 || err != api.ErrSession {
				x.t.Errorf("%d: %d, %v", n, length, err)
			}
		}
	}
	if length, err := x.offset(n); length != 0 || err != api.ErrSession {
		x.t.Errorf("%d: %d, %v", n, length, err)
	}
	x.refuseFinish(n, digest(nil, 32), api.ErrSession)
	x.refuseFinish(n, api.ID{}, api.ErrSession)
	if err := x.cancel(n); err != api.ErrSession {
		x.t.Errorf("%d: %v", n, err)
	}
	x.check()
}

// P9.3: only the offset at which the bytes end is right.
func TestOffset(t *testing.T) {
	for _, length := range []int{0, 1, 2, 20, longest - 1, longest} {
		x := newAll(t, 32)
		n := x.begin("a", mixed(length, 1))
		for _, offset := range []int{length - 1, length + 1, -1, 1 << 32, length - 1<<32, length + 1<<32, -length - 1, 0, longest, longest + 1, math.MinInt, math.MaxInt} {
			for _, b := range [][]byte{nil, {}, {1}, mixed(longest, 1), mixed(longest+1, 1)} {
				if offset != length {
					x.refuseWrite(n, offset, b, api.ErrOffset)
				}
			}
		}
		if at, err := x.offset(n); at != length || err != api.OK {
			t.Error(at, err)
		}
	}
}

// P9.3: a session has 4,096 bytes at most, and with a refusal its length is told, too.
func TestLong(t *testing.T) {
	for _, length := range []int{0, 1, 100, longest - 2, longest - 1, longest} {
		x := newAll(t, 32)
		n := x.begin("a", mixed(length, 1))
		for _, more := range []int{longest - length + 1, longest - length + 2, longest + 1, 2 * longest, 1 << 20} {
			x.refuseWrite(n, length, mixed(more, 2), api.ErrLong)
			x.refuseWrite(n, length+1, mixed(more, 2), api.ErrOffset)
			if at, err := x.tables[0].Write(n, length, mixed(more, 2)); at != length || err != api.ErrLong {
				t.Error(at, err)
			}
		}
		if at, err := x.write(n, length, mixed(longest-length, 3)); at != longest || err != api.OK {
			t.Error(at, err)
		}
		x.check()
		x.refuseWrite(n, longest, []byte{1}, api.ErrLong)
	}
}

// P9.3: a piece without bytes is added as often as it comes, also to a session that is full.
func TestEmptyPieces(t *testing.T) {
	for _, length := range []int{0, 1, longest} {
		x := newAll(t, 32)
		n := x.begin("a", mixed(length, 1))
		for range 10 {
			for _, b := range [][]byte{nil, {}} {
				if at, err := x.write(n, length, b); at != length || err != api.OK {
					t.Error(at, err)
				}
			}
		}
		x.check()
		x.reload()
		x.finish(n, digest(mixed(length, 1), 32))
		x.check()
	}
}

// P9.3: what is written to one session is in no other one.
func TestSessionsApart(t *testing.T) {
	x := newAll(t, 32)
	for i := range 8 {
		x.begin(names[i], mixed(i, uint32(i)))
	}
	for k := range 200 {
		n := k*5%8 + 1
		at, _ := x.offset(n)
		x.write(n, at, mixed(k%9, uint32(k)))
		x.check()
	}
	for _, n := range []int{4, 1, 8, 5, 2, 7, 3, 6} {
		if s, err := x.finish(n, digest(x.m.sessions[x.m.find(n)].B, 32)); s.N != n || s.Repo != names[n-1] || err != api.OK {
			t.Error(s, err)
		}
		x.check()
	}
}

// P9.4: a session is finished with the digest of its bytes, of the table's width, alone: no bit of it is another, and nothing is behind the width.
func TestDigest(t *testing.T) {
	b := []byte("what arrived")
	for width := 1; width <= 32; width++ {
		x := newAll(t, width)
		x.begin("other", []byte("other"))
		n := x.begin("a/b", b)
		id := digest(b, width)
		for bit := range 256 {
			not := id
			not[bit/8] ^= 1 << (bit % 8)
			x.refuseFinish(n, not, api.ErrDigest)
		}
		for other := 1; other <= 32; other++ {
			if not := digest(b, other); not != id {
				x.refuseFinish(n, not, api.ErrDigest)
			}
		}
		x.refuseFinish(n, api.ID{}, api.ErrDigest)
		x.reload()
		if s, err := x.finish(n, id); s.N != n || s.Repo != "a/b" || string(s.B) != string(b) || err != api.OK {
			t.Error(s, err)
		}
		x.check()
	}
}

// P9.4: the digest is that of all bytes so far, not of the last ones or the first ones; a refusal does not keep a session from going on.
func TestDigestOfPieces(t *testing.T) {
	x := newAll(t, 32)
	n := x.begin("a", []byte("one"))
	x.write(n, 3, []byte("two"))
	for _, b := range []string{"", "one", "two", "twoone", "onetw", "onetwo3"} {
		x.refuseFinish(n, digest([]byte(b), 32), api.ErrDigest)
	}
	x.write(n, 6, []byte("three"))
	x.refuseFinish(n, digest([]byte("onetwo"), 32), api.ErrDigest)
	if s, err := x.finish(n, digest([]byte("onetwothree"), 32)); string(s.B) != "onetwothree" || err != api.OK {
		t.Error(s, err)
	}
	x.check()
}

// P9.4: sessions of no bytes, and of as many as there can be, are finished as others are.
func TestFinishLengths(t *testing.T) {
	for _, width := range []int{1, 20, 32} {
		for _, length := range []int{0, 1, 55, 56, 63, 64, 65, longest - 1, longest} {
			x := newAll(t, width)
			b := mixed(length, 1)
			n := x.begin("a", b)
			if s, err := x.finish(n, digest(b, width)); len(s.B) != length || err != api.OK {
				t.Error(len(s.B), err)
			}
			x.check()
		}
	}
}

// P9.4: whatever a session has, it is cancelled, and the others stay.
func TestCancel(t *testing.T) {
	for i := range 8 {
		x := loadAll(t, 32, 100, sessions(1, 2, 4, 8, 16, 32, 64, 99))
		n := x.m.sessions[i].N
		if err := x.cancel(n); err != api.OK {
			t.Error(err)
		}
		x.check()
		if err := x.cancel(n); err != api.ErrSession {
			t.Error(err)
		}
		x.check()
	}
}

// P9.1, P9.3: what was passed and what is told is nobody else's memory.
func TestMemory(t *testing.T) {
	x := newAll(t, 32)
	n := x.begin("a", nil)
	b := append(make([]byte, 0, 64), "abc"...)
	spare := b[:64]
	copy(spare[3:], "def")
	x.write(n, 0, b)
	x.write(n, 3, []byte("xyz"))
	if string(spare[:6]) != "abcdef" {
		t.Error("an argument is changed")
	}
	clear(spare)
	x.check()
	x.begin("b", []byte("more"))
	for range 2 {
		l := x.tables[0].List()
		for _, s := range l {
			clear(s.B[:cap(s.B)])
		}
		clear(l[:cap(l)])
		x.check()
	}
}

// P9.1: what was loaded is not looked at later.
func TestMemoryOfLoad(t *testing.T) {
	l := append(make([]api.Session, 0, 16), sessions(2, 5, 8)...)
	spare := l[:16]
	spare[3] = api.Session{N: 9, Repo: "z", B: []byte("z")}
	x := loadAll(t, 32, 12, l)
	x.m.sessions = sessions(2, 5, 8)
	x.begin("a", []byte("abc"))
	at, _ := x.offset(5)
	x.write(5, at, []byte("tail"))
	if !slices.EqualFunc(l, sessions(2, 5, 8), same) || spare[3].N != 9 || spare[3].Repo != "z" {
		t.Error("an argument is changed")
	}
	for _, s := range l {
		clear(s.B[:cap(s.B)])
	}
	clear(spare)
	x.check()
}

// P9.1: the lists of one answer share no memory, not even behind their ends.
func TestMemoryOfList(t *testing.T) {
	x := loadAll(t, 32, 12, sessions(1, 2, 3, 4, 5))
	l := x.tables[0].List()
	for i := range l {
		before := x.tables[0].List()
		l[i].B = append(l[i].B, "and more than that, far behind the end"...)
		for j := i + 1; j < len(l); j++ {
			if !same(l[j], before[j]) {
				t.Errorf("%d changes %d", i, j)
			}
		}
	}
	x.check()
}

// P9.4: a session that is finished is not what comes behind it, and is told whole.
func TestMemoryOfFinish(t *testing.T) {
	x := loadAll(t, 32, 12, sessions(1, 2, 3))
	want := sessions(1, 2, 3)[1]
	s, err := x.tables[0].Finish(2, digest(want.B, 32))
	x.m.cancel(2)
	if !same(s, want) || err != api.OK {
		t.Fatal(s, err)
	}
	x.begin("a", mixed(100, 9))
	if !same(s, want) {
		t.Error("what is told changes")
	}
	clear(s.B[:cap(s.B)])
	x.check()
}

// P9.1: tables do not know of each other.
func TestTwoTables(t *testing.T) {
	x, y := newAll(t, 32), newAll(t, 4)
	x.begin("x", []byte("abc"))
	y.begin("y", []byte("defg"))
	y.begin("z", nil)
	x.check()
	y.check()
	x.refuseFinish(1, digest([]byte("abc"), 4), api.ErrDigest)
	y.refuseFinish(1, digest([]byte("defg"), 32), api.ErrDigest)
	x.finish(1, digest([]byte("abc"), 32))
	x.check()
	y.check()
}
