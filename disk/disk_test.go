package disk_test

import (
	"bytes"
	"math"
	"slices"
	"testing"

	"transept/api"
	"transept/disk"
)

// text answers n octets without a plain order; another seed makes another text.
func text(n int, seed uint32) []byte {
	b := make([]byte, n)
	state := seed*2654435761 + 12345
	for i := range b {
		state = state*1664525 + 1013904223
		b[i] = byte(state >> 24)
	}
	return b
}

// zeros answers n sectors of zeros by another hand than the program's.
func zeros(n int) [][]byte {
	l := make([][]byte, n)
	for i := range l {
		l[i] = make([]byte, 64)
	}
	return l
}

// padded answers data with zeros up to 64 octets.
func padded(data []byte) []byte {
	return append(slices.Clone(data), make([]byte, 64-len(data))...)
}

func sameWrite(v, w disk.Write) bool {
	return v.Sector == w.Sector && bytes.Equal(v.Data, w.Data)
}

func same(s, u disk.State) bool {
	return slices.EqualFunc(s.Sectors, u.Sectors, bytes.Equal) && slices.EqualFunc(s.Cache, u.Cache, sameWrite)
}

// cloned answers s in memory of its own, whether it may be or not.
func cloned(s disk.State) disk.State {
	var u disk.State
	for _, held := range s.Sectors {
		u.Sectors = append(u.Sectors, slices.Clone(held))
	}
	for _, w := range s.Cache {
		u.Cache = append(u.Cache, disk.Write{Sector: w.Sector, Data: slices.Clone(w.Data)})
	}
	return u
}

// filled answers a disk of n sectors, none like another, and no writes.
func filled(n int, seed uint32) disk.State {
	var s disk.State
	for i := range n {
		s.Sectors = append(s.Sectors, text(64, seed+uint32(i)))
	}
	return s
}

// written answers s with a write for each of the sectors, none like another.
func written(s disk.State, seed uint32, sectors ...int) disk.State {
	s = cloned(s)
	for i, sector := range sectors {
		s.Cache = append(s.Cache, disk.Write{Sector: sector, Data: text(64, seed+uint32(i))})
	}
	return s
}

// crowded answers a disk of three sectors with n writes.
func crowded(n int) disk.State {
	s := filled(3, 900)
	for i := range n {
		s.Cache = append(s.Cache, disk.Write{Sector: i % 3, Data: text(64, 1000+uint32(i))})
	}
	return s
}

func wantState(t *testing.T, what string, got disk.State, err api.Errno, want disk.State) {
	t.Helper()
	if err != api.OK || !same(got, want) {
		t.Errorf("%s: %d, %d sectors, %d writes; want another state", what, err, len(got.Sectors), len(got.Cache))
	}
}

// wantRefused: beside the error nothing else is told.
func wantRefused(t *testing.T, what string, got disk.State, err api.Errno, want api.Errno) {
	t.Helper()
	if err != want || len(got.Sectors) != 0 || len(got.Cache) != 0 {
		t.Errorf("%s: %d, %d sectors, %d writes; want %d alone", what, err, len(got.Sectors), len(got.Cache), want)
	}
}

func wantGet(t *testing.T, what string, s disk.State, sector int, want []byte) {
	t.Helper()
	if b, err := disk.Get(s, sector); err != api.OK || !bytes.Equal(b, want) {
		t.Errorf("%s: Get of sector %d: % x, %d; want % x", what, sector, b, err, want)
	}
}

func wantNotGot(t *testing.T, what string, s disk.State, sector int, want api.Errno) {
	t.Helper()
	if b, err := disk.Get(s, sector); err != want || len(b) != 0 {
		t.Errorf("%s: Get of sector %d: %d octets, %d; want %d alone", what, sector, len(b), err, want)
	}
}

func made(t *testing.T, n int) disk.State {
	t.Helper()
	s, err := disk.New(n)
	if err != api.OK {
		t.Fatalf("New(%d): %d", n, err)
	}
	return s
}

func put(t *testing.T, s disk.State, sector int, data []byte) disk.State {
	t.Helper()
	next, err := disk.Put(s, sector, data)
	if err != api.OK {
		t.Fatalf("Put at %d of %d octets: %d", sector, len(data), err)
	}
	return next
}

// TestExample is the chapter's.
func TestExample(t *testing.T) {
	s := put(t, made(t, 2), 1, []byte("ab"))
	wantGet(t, "put", s, 1, padded([]byte("ab")))
	wantGet(t, "put elsewhere", s, 0, make([]byte, 64))
	s, err := disk.Crash(s, nil, 0, 64)
	wantState(t, "Crash with keep none", s, err, disk.State{Sectors: zeros(2)})
	wantGet(t, "crashed", s, 1, make([]byte, 64))
}

func TestP4_1New(t *testing.T) {
	for _, n := range []int{1, 2, 3, 4, 63, 64, 65, 1023, 1024} {
		s, err := disk.New(n)
		wantState(t, "New", s, err, disk.State{Sectors: zeros(n)})
		if err := disk.Check(s); err != api.OK {
			t.Errorf("Check of New(%d): %d", n, err)
		}
	}
	for _, n := range []int{0, 1025, 1026, 4096, -1, -2, -1024, math.MaxInt, math.MinInt, 1 << 32, 1<<32 + 1} {
		s, err := disk.New(n)
		wantRefused(t, "New of a count out of range", s, err, api.ErrRange)
	}
}

// named is a state and what is told of it.
type named struct {
	what string
	disk.State
}

// mayBe are states that may be, at the edges and between them.
func mayBe() []named {
	shared := text(64, 1)
	return []named{
		{"one sector", disk.State{Sectors: zeros(1)}},
		{"one sector, an empty cache", disk.State{Sectors: zeros(1), Cache: []disk.Write{}}},
		{"one sector, written", written(filled(1, 5), 10, 0)},
		{"two sectors, both written", written(filled(2, 5), 10, 0, 1)},
		{"the last one written again and again", written(filled(5, 5), 10, 4, 4, 0, 4)},
		{"one memory for all", disk.State{Sectors: [][]byte{shared, shared}, Cache: []disk.Write{{0, shared}, {1, shared}}}},
		{"1023 sectors", filled(1023, 5)},
		{"1024 sectors, the last one written", written(filled(1024, 5), 10, 1023)},
		{"4095 writes", crowded(4095)},
		{"4096 writes", crowded(4096)},
	}
}

// mayNotBe are states with one thing wrong, and some with several.
func mayNotBe() []named {
	withSector := func(at int, data []byte) disk.State {
		s := filled(3, 20)
		s.Sectors[at] = data
		return s
	}
	withWrite := func(at int, w disk.Write) disk.State {
		s := written(filled(3, 20), 30, 0, 1, 2)
		s.Cache[at] = w
		return s
	}
	l := []named{
		{"nothing", disk.State{}},
		{"empty lists", disk.State{Sectors: [][]byte{}, Cache: []disk.Write{}}},
		{"a write and no sectors", disk.State{Cache: []disk.Write{{0, text(64, 1)}}}},
		{"1025 sectors", filled(1025, 20)},
		{"2000 sectors", filled(2000, 20)},
		{"4097 writes", crowded(4097)},
		{"5000 writes", crowded(5000)},
		{"1025 sectors, the last one written", written(filled(1025, 20), 30, 1024)},
	}
	for at := range 3 {
		for _, size := range []int{0, 1, 63, 65, 128} {
			l = append(l,
				named{"a sector of another size", withSector(at, text(size, 40))},
				named{"a write of another size", withWrite(at, disk.Write{Sector: at, Data: text(size, 40)})})
		}
		l = append(l,
			named{"a sector that is nil", withSector(at, nil)},
			named{"a write that is nil", withWrite(at, disk.Write{Sector: at})})
		for _, sector := range []int{3, 4, 1023, 1024, -1, -3, math.MaxInt, math.MinInt, 1 << 32} {
			l = append(l, named{"a write of a sector that is not there", withWrite(at, disk.Write{Sector: sector, Data: text(64, 50)})})
		}
	}
	return l
}

func TestP4_1Check(t *testing.T) {
	for _, s := range mayBe() {
		if err := disk.Check(s.State); err != api.OK {
			t.Errorf("Check of %s: %d", s.what, err)
		}
	}
	for _, s := range mayNotBe() {
		if err := disk.Check(s.State); err != api.ErrState {
			t.Errorf("Check of %s: %d; want ErrState", s.what, err)
		}
	}
}

// TestP4_1CheckCapacity: what stands behind a list's end is not there.
func TestP4_1CheckCapacity(t *testing.T) {
	s := filled(3, 60)
	s.Sectors = append(s.Sectors, nil)[:3]
	s.Cache = []disk.Write{{Sector: 3}}[:0]
	if err := disk.Check(s); err != api.OK {
		t.Errorf("Check with what may not be behind the ends: %d", err)
	}
	s.Sectors[2] = text(64, 1)[:63]
	if err := disk.Check(s); err != api.ErrState {
		t.Errorf("Check of a sector of 63 octets with room behind: %d", err)
	}
	if err := disk.Check(disk.State{Sectors: zeros(3)[:0]}); err != api.ErrState {
		t.Errorf("Check of no sectors with room behind: %d", err)
	}
}

// TestStateFirst: of a state that may not be each call tells that, whatever else is wrong.
func TestStateFirst(t *testing.T) {
	for _, s := range mayNotBe() {
		for _, sector := range []int{0, 2, -1, 5000, math.MaxInt, math.MinInt} {
			for _, data := range [][]byte{nil, text(64, 1), text(65, 1)} {
				u, err := disk.Put(s.State, sector, data)
				wantRefused(t, "Put of "+s.what, u, err, api.ErrState)
			}
			wantNotGot(t, s.what, s.State, sector, api.ErrState)
			for _, at := range []int{-1, 0, 64} {
				u, err := disk.Rot(s.State, sector, at, 1)
				wantRefused(t, "Rot of "+s.what, u, err, api.ErrState)
			}
		}
		u, err := disk.Flush(s.State)
		wantRefused(t, "Flush of "+s.what, u, err, api.ErrState)
		for _, keep := range [][]bool{nil, {}, {true, true, true}, make([]bool, 6000)} {
			u, err := disk.Crash(s.State, keep, 0, 32)
			wantRefused(t, "Crash of "+s.what, u, err, api.ErrState)
		}
	}
}

func TestP4_1Put(t *testing.T) {
	for _, s := range []disk.State{filled(1, 1), filled(4, 2), written(filled(4, 3), 9, 3, 0, 3), filled(1024, 4), crowded(4095)} {
		for _, sector := range []int{0, len(s.Sectors) / 2, len(s.Sectors) - 1} {
			for _, data := range [][]byte{nil, {}, {0}, {1}, []byte("ab"), text(32, 1), text(63, 2), text(64, 3)} {
				u, err := disk.Put(s, sector, data)
				want := cloned(s)
				want.Cache = append(want.Cache, disk.Write{Sector: sector, Data: padded(data)})
				wantState(t, "Put", u, err, want)
			}
		}
	}
}

// TestP4_1PutWithRoom: of a longer list only what it holds is put, zeros behind it.
func TestP4_1PutWithRoom(t *testing.T) {
	data := text(64, 1)
	for n := range 65 {
		u, err := disk.Put(filled(1, 1), 0, data[:n])
		wantState(t, "Put of a list with room", u, err, disk.State{
			Sectors: filled(1, 1).Sectors,
			Cache:   []disk.Write{{Sector: 0, Data: padded(data[:n:n])}},
		})
	}
}

// notThere are sectors that a disk of n does not have.
func notThere(n int) []int {
	return []int{n, n + 1, 2 * n, 1024, 4096, 1 << 32, math.MaxInt, -1, -2, -n, -n - 1, math.MinInt}
}

func TestP4_1PutErrors(t *testing.T) {
	roomy, full := written(filled(3, 1), 9, 0, 1), crowded(4096)
	for _, sector := range notThere(3) {
		for _, s := range []disk.State{roomy, full} {
			for _, data := range [][]byte{nil, text(64, 1), text(65, 1), text(1000, 1)} {
				u, err := disk.Put(s, sector, data)
				wantRefused(t, "Put at a sector that is not there", u, err, api.ErrSector)
			}
		}
	}
	for _, n := range []int{65, 66, 128, 4096, 1 << 20} {
		for _, s := range []disk.State{roomy, full} {
			u, err := disk.Put(s, 2, text(n, 1))
			wantRefused(t, "Put of too many octets", u, err, api.ErrLong)
		}
	}
	for _, data := range [][]byte{nil, {}, []byte("ab"), text(64, 1)} {
		for sector := range 3 {
			u, err := disk.Put(full, sector, data)
			wantRefused(t, "Put into a full cache", u, err, api.ErrFull)
		}
	}
}

// TestP4_1PutUntilFull: the 4096th write goes in, the next one does not until the cache is flushed.
func TestP4_1PutUntilFull(t *testing.T) {
	s := crowded(4094)
	s = put(t, s, 0, []byte("x"))
	s = put(t, s, 1, []byte("y"))
	if len(s.Cache) != 4096 || disk.Check(s) != api.OK {
		t.Fatalf("%d writes, Check %d", len(s.Cache), disk.Check(s))
	}
	u, err := disk.Put(s, 2, []byte("z"))
	wantRefused(t, "Put as the 4097th", u, err, api.ErrFull)
	s, _ = disk.Flush(s)
	s = put(t, s, 2, []byte("z"))
	wantGet(t, "flushed", s, 0, padded([]byte("x")))
	wantGet(t, "flushed", s, 1, padded([]byte("y")))
	wantGet(t, "put behind a flush", s, 2, padded([]byte("z")))
}

func TestP4_1Get(t *testing.T) {
	s := written(filled(4, 1), 50, 1, 2, 0, 2, 0, 2)
	wantGet(t, "one write", s, 1, text(64, 50))
	wantGet(t, "two writes", s, 0, text(64, 54))
	wantGet(t, "three writes, the last of the cache", s, 2, text(64, 55))
	wantGet(t, "no write", s, 3, text(64, 4))
	for i := range 4 {
		wantGet(t, "no writes at all", filled(4, 1), i, text(64, 1+uint32(i)))
	}
	wantGet(t, "a write of zeros", put(t, s, 3, nil), 3, make([]byte, 64))
	full := crowded(4096)
	for i := range 3 {
		wantGet(t, "a full cache", full, (4093+i)%3, text(64, uint32(5093+i)))
	}
	for _, sector := range notThere(4) {
		wantNotGot(t, "a sector that is not there", s, sector, api.ErrSector)
	}
	wantGet(t, "the last of 1024", filled(1024, 7), 1023, text(64, 7+1023))
	wantNotGot(t, "behind the last of 1024", filled(1024, 7), 1024, api.ErrSector)
}

func TestP4_2Flush(t *testing.T) {
	s := written(filled(4, 1), 50, 1, 2, 0, 2, 0, 2)
	u, err := disk.Flush(s)
	wantState(t, "Flush of several writes of one sector", u, err, disk.State{
		Sectors: [][]byte{text(64, 54), text(64, 50), text(64, 55), text(64, 4)},
	})
	u, err = disk.Flush(u)
	wantState(t, "Flush of an empty cache", u, err, disk.State{
		Sectors: [][]byte{text(64, 54), text(64, 50), text(64, 55), text(64, 4)},
	})
	u, err = disk.Flush(put(t, filled(1, 1), 0, nil))
	wantState(t, "Flush of zeros", u, err, disk.State{Sectors: zeros(1)})
	u, err = disk.Flush(crowded(4096))
	wantState(t, "Flush of a full cache", u, err, disk.State{
		Sectors: [][]byte{text(64, 5095), text(64, 5093), text(64, 5094)},
	})
}

// mixed answers a beginning of one sector and the rest of another.
func mixed(begin []byte, cut int, rest []byte) []byte {
	return slices.Concat(begin[:cut], rest[cut:])
}

func TestP4_2CrashKeep(t *testing.T) {
	s := written(filled(3, 1), 50, 0, 1, 0, 1)
	old := func(i int) []byte { return text(64, 1+uint32(i)) }
	wrote := func(i int) []byte { return text(64, 50+uint32(i)) }
	for _, c := range []struct {
		what        string
		keep        []bool
		zero, first []byte
	}{
		{"nil", nil, old(0), old(1)},
		{"empty", []bool{}, old(0), old(1)},
		{"all false", []bool{false, false, false, false}, old(0), old(1)},
		{"all true", []bool{true, true, true, true}, wrote(2), wrote(3)},
		{"shorter", []bool{true}, wrote(0), old(1)},
		{"shorter by one", []bool{true, true, true}, wrote(2), wrote(1)},
		{"longer", []bool{false, true, false, false, true, true}, old(0), wrote(1)},
		{"longer, all true", []bool{true, true, true, true, true, true, true}, wrote(2), wrote(3)},
		{"not the last ones", []bool{true, true, false, false}, wrote(0), wrote(1)},
		{"the last ones alone", []bool{false, false, true, true}, wrote(2), wrote(3)},
		{"only behind the cache", []bool{false, false, false, false, true}, old(0), old(1)},
		{"with room behind", []bool{true, true, true, true}[:1], wrote(0), old(1)},
	} {
		for _, torn := range []int{-1, 4, 5, 100, math.MaxInt, math.MinInt} {
			u, err := disk.Crash(s, c.keep, torn, 7)
			wantState(t, "Crash with keep "+c.what, u, err, disk.State{Sectors: [][]byte{c.zero, c.first, old(2)}})
		}
	}
}

func TestP4_2CrashTorn(t *testing.T) {
	s := written(filled(2, 1), 50, 1, 1, 0)
	all := []bool{true, true, true}
	old := func(i int) []byte { return text(64, 1+uint32(i)) }
	wrote := func(i int) []byte { return text(64, 50+uint32(i)) }
	for _, c := range []struct{ cut, lands int }{
		{math.MinInt, 0}, {-1000, 0}, {-64, 0}, {-1, 0}, {0, 0}, {1, 1}, {2, 2}, {31, 31}, {32, 32}, {62, 62}, {63, 63},
		{64, 64}, {65, 64}, {66, 64}, {128, 64}, {1 << 32, 64}, {math.MaxInt, 64},
	} {
		for _, x := range []struct {
			what        string
			keep        []bool
			torn        int
			zero, first []byte
		}{
			{"the last one", all, 2, mixed(wrote(2), c.lands, old(0)), wrote(1)},
			{"one over another that is kept", all, 1, wrote(2), mixed(wrote(1), c.lands, wrote(0))},
			{"one that is written over", all, 0, wrote(2), wrote(1)},
			{"the first one, alone", []bool{true}, 0, old(0), mixed(wrote(0), c.lands, old(1))},
			{"one over another that is not kept", []bool{false, true}, 1, old(0), mixed(wrote(1), c.lands, old(1))},
			{"one that keep tells not to", []bool{true, false, true}, 1, wrote(2), wrote(0)},
			{"one behind keep's end", []bool{true, true}, 2, old(0), wrote(1)},
			{"none: below 0", all, -1, wrote(2), wrote(1)},
			{"none: behind the cache", []bool{true, true, true, true}, 3, wrote(2), wrote(1)},
		} {
			u, err := disk.Crash(s, x.keep, x.torn, c.cut)
			wantState(t, "Crash with torn "+x.what, u, err, disk.State{Sectors: [][]byte{x.zero, x.first}})
			if t.Failed() {
				t.Fatalf("with cut %d", c.cut)
			}
		}
	}
}

func TestP4_2CrashOfNoWrites(t *testing.T) {
	for _, keep := range [][]bool{nil, {true}, {false, true}} {
		u, err := disk.Crash(filled(3, 1), keep, 0, 10)
		wantState(t, "Crash of an empty cache", u, err, filled(3, 1))
	}
	all := slices.Repeat([]bool{true}, 4096)
	u, err := disk.Crash(crowded(4096), all, 4095, 20)
	wantState(t, "Crash of a full cache", u, err, disk.State{
		Sectors: [][]byte{mixed(text(64, 5095), 20, text(64, 5092)), text(64, 5093), text(64, 5094)},
	})
}

func TestP4_2Rot(t *testing.T) {
	s := written(filled(3, 1), 50, 1, 0, 1)
	for sector := range 3 {
		for _, at := range []int{0, 1, 31, 32, 62, 63} {
			for _, bits := range []byte{0, 1, 2, 0x80, 0x55, 0xff} {
				u, err := disk.Rot(s, sector, at, bits)
				want := cloned(s)
				want.Sectors[sector][at] ^= bits
				wantState(t, "Rot", u, err, want)
			}
		}
	}
	u, err := disk.Rot(filled(1024, 1), 1023, 63, 1)
	want := filled(1024, 1)
	want.Sectors[1023][63] ^= 1
	wantState(t, "Rot of the last of 1024", u, err, want)
	for _, sector := range notThere(3) {
		for _, at := range []int{0, 63, -1, 64} {
			u, err := disk.Rot(s, sector, at, 1)
			wantRefused(t, "Rot of a sector that is not there", u, err, api.ErrSector)
		}
	}
	for _, at := range []int{-1, -2, -64, 64, 65, 128, 1 << 32, math.MaxInt, math.MinInt} {
		for _, bits := range []byte{0, 1} {
			u, err := disk.Rot(s, 1, at, bits)
			wantRefused(t, "Rot of an octet that is not there", u, err, api.ErrRange)
		}
	}
}

// TestP4_2RotUnderCache: the cache hides what is rotten, until a crash loses it or a flush writes it over.
func TestP4_2RotUnderCache(t *testing.T) {
	s := put(t, filled(2, 1), 1, []byte("new"))
	rotten, err := disk.Rot(s, 1, 0, 0xff)
	if err != api.OK {
		t.Fatalf("Rot: %d", err)
	}
	wantGet(t, "rotten under a write", rotten, 1, padded([]byte("new")))
	flushed, _ := disk.Flush(rotten)
	wantGet(t, "written over", flushed, 1, padded([]byte("new")))
	crashed, _ := disk.Crash(rotten, nil, 0, 0)
	want := text(64, 2)
	want[0] ^= 0xff
	wantGet(t, "the write lost", crashed, 1, want)
	rotten, _ = disk.Rot(flushed, 1, 2, 1)
	wantGet(t, "rotten behind a flush", rotten, 1, padded([]byte("nev")))
	again, err := disk.Rot(rotten, 1, 2, 1)
	wantState(t, "Rot twice", again, err, flushed)
}

// model is a disk by the chapter's words, in arrays: what a call makes of one is not seen in another.
type model struct {
	sectors []([64]byte)
	cache   []modelWrite
}

type modelWrite struct {
	sector int
	data   [64]byte
}

func (m model) state() disk.State {
	var s disk.State
	for _, held := range m.sectors {
		s.Sectors = append(s.Sectors, slices.Clone(held[:]))
	}
	for _, w := range m.cache {
		s.Cache = append(s.Cache, disk.Write{Sector: w.sector, Data: slices.Clone(w.data[:])})
	}
	return s
}

func (m model) got(sector int) [64]byte {
	held := m.sectors[sector]
	for _, w := range m.cache {
		if w.sector == sector {
			held = w.data
		}
	}
	return held
}

func (m *model) put(sector int, data []byte) {
	w := modelWrite{sector: sector}
	for i, octet := range data {
		w.data[i] = octet
	}
	m.cache = append(m.cache, w)
}

func (m *model) flush() {
	for sector := range m.sectors {
		m.sectors[sector] = m.got(sector)
	}
	m.cache = nil
}

func (m *model) crash(keep []bool, torn int, cut int) {
	for i, w := range m.cache {
		for at, octet := range w.data {
			if i < len(keep) && keep[i] && (i != torn || at < cut) {
				m.sectors[w.sector][at] = octet
			}
		}
	}
	m.cache = nil
}

// TestP4_3WhatWasPutIsGot, by long scripts of all calls, each state held against the model's.
func TestP4_3WhatWasPutIsGot(t *testing.T) {
	for seed := range uint32(40) {
		n := 1 + int(seed)%7
		m := model{sectors: make([][64]byte, n)}
		s := made(t, n)
		for turn := range uint32(120) {
			pick := text(12, 1000*seed+turn)
			sector := int(pick[1]) % n
			var err api.Errno
			switch pick[0] % 10 {
			case 0:
				s, err = disk.Flush(s)
				m.flush()
			case 1:
				keep := make([]bool, int(pick[2])%(len(m.cache)+2))
				for i := range keep {
					keep[i] = pick[3+i%4]>>(i%8)&1 == 0
				}
				torn, cut := int(pick[7])%(len(m.cache)+2)-1, int(pick[8])%70-3
				s, err = disk.Crash(s, keep, torn, cut)
				m.crash(keep, torn, cut)
			case 2:
				s, err = disk.Rot(s, sector, int(pick[2])%64, pick[3])
				m.sectors[sector][pick[2]%64] ^= pick[3]
			default:
				data := text(int(pick[2])%65, 7*seed+turn)
				s, err = disk.Put(s, sector, data)
				m.put(sector, data)
			}
			wantState(t, "a script's step", s, err, m.state())
			for i := range n {
				want := m.got(i)
				wantGet(t, "a script's step", s, i, want[:])
			}
			if t.Failed() {
				t.Fatalf("script %d, step %d of kind %d", seed, turn, pick[0]%10)
			}
		}
	}
}

func TestP4_3FlushedOrNot(t *testing.T) {
	for n := range 65 {
		data := text(n, uint32(n))
		for _, s := range []disk.State{filled(3, 1), written(filled(3, 1), 50, 0, 1, 2, 1)} {
			for sector := range 3 {
				u := put(t, s, sector, data)
				wantGet(t, "put", u, sector, padded(data))
				flushed, _ := disk.Flush(u)
				wantGet(t, "put and flushed", flushed, sector, padded(data))
				for other := range 3 {
					if other != sector {
						before, _ := disk.Get(s, other)
						wantGet(t, "put elsewhere", u, other, before)
						wantGet(t, "put elsewhere and flushed", flushed, other, before)
					}
				}
			}
		}
	}
}

func TestP4_4NoCrashBehindAFlush(t *testing.T) {
	for _, s := range mayBe() {
		flushed, err := disk.Flush(s.State)
		if err != api.OK {
			t.Errorf("Flush of %s: %d", s.what, err)
		}
		for i := range s.Sectors {
			want, _ := disk.Get(s.State, i)
			if !bytes.Equal(flushed.Sectors[i], want) {
				t.Errorf("Flush of %s: sector %d is not what Get told", s.what, i)
			}
		}
		for _, keep := range [][]bool{nil, {true}, {false}, slices.Repeat([]bool{true}, 5000)} {
			for _, torn := range []int{-1, 0, 1, 4095} {
				for _, cut := range []int{-1, 0, 1, 64, 65} {
					u, err := disk.Crash(flushed, keep, torn, cut)
					wantState(t, "Crash behind a Flush of "+s.what, u, err, flushed)
				}
			}
		}
	}
}

// mayStand tells whether a sector may hold that behind a crash: what it held, what one of its writes had,
// or a beginning of the torn one and the rest of either.
func mayStand(s disk.State, sector int, torn int, cut int, held []byte) bool {
	could := [][]byte{s.Sectors[sector]}
	for i, w := range s.Cache {
		if w.Sector != sector {
			continue
		}
		if i == torn {
			for _, under := range slices.Clone(could) {
				could = append(could, mixed(w.Data, min(max(cut, 0), 64), under))
			}
			continue
		}
		could = append(could, w.Data)
	}
	return slices.ContainsFunc(could, func(b []byte) bool { return bytes.Equal(b, held) })
}

// TestP4_5OldOrNewOrTorn: whatever is kept and torn of six writes.
func TestP4_5OldOrNewOrTorn(t *testing.T) {
	s := written(filled(4, 1), 50, 0, 1, 0, 2, 0, 1)
	for kept := range 1 << 6 {
		keep := make([]bool, 6)
		for i := range keep {
			keep[i] = kept>>i&1 == 1
		}
		for torn := -1; torn <= 6; torn++ {
			for _, cut := range []int{-1, 0, 1, 40, 63, 64, 65} {
				u, err := disk.Crash(s, keep, torn, cut)
				if err != api.OK || len(u.Sectors) != 4 || len(u.Cache) != 0 || disk.Check(u) != api.OK {
					t.Fatalf("Crash: %d, %d sectors, %d writes", err, len(u.Sectors), len(u.Cache))
				}
				for i, held := range u.Sectors {
					if !mayStand(s, i, torn, cut, held) {
						t.Errorf("keep %06b, torn %d, cut %d: sector %d holds what it may not", kept, torn, cut, i)
					}
				}
				if !bytes.Equal(u.Sectors[3], s.Sectors[3]) {
					t.Errorf("keep %06b, torn %d, cut %d: a sector without a write was changed", kept, torn, cut)
				}
			}
		}
	}
}

// act is one call of a state, with all that it answers laid into a state.
type act struct {
	what string
	do   func(s disk.State) disk.State
}

func acts() []act {
	state := func(s disk.State, _ api.Errno) disk.State { return s }
	return []act{
		{"Put", func(s disk.State) disk.State { return state(disk.Put(s, 0, []byte("abc"))) }},
		{"Put of 64", func(s disk.State) disk.State { return state(disk.Put(s, len(s.Sectors)-1, text(64, 77))) }},
		{"Get", func(s disk.State) disk.State {
			b, _ := disk.Get(s, 0)
			return disk.State{Sectors: [][]byte{b}}
		}},
		{"Get of the last", func(s disk.State) disk.State {
			b, _ := disk.Get(s, len(s.Sectors)-1)
			return disk.State{Sectors: [][]byte{b}}
		}},
		{"Flush", func(s disk.State) disk.State { return state(disk.Flush(s)) }},
		{"Crash with keep none", func(s disk.State) disk.State { return state(disk.Crash(s, nil, 0, 0)) }},
		{"Crash", func(s disk.State) disk.State { return state(disk.Crash(s, []bool{true, true, false, true}, 1, 9)) }},
		{"Rot", func(s disk.State) disk.State { return state(disk.Rot(s, 0, 5, 0x0f)) }},
		{"Rot of no bits", func(s disk.State) disk.State { return state(disk.Rot(s, 0, 5, 0)) }},
		{"Check", func(s disk.State) disk.State {
			disk.Check(s)
			return disk.State{}
		}},
	}
}

// roomy answers s with room behind each list, so that a call that appends to what it was given would be seen.
func roomy(s disk.State) (disk.State, func() disk.State) {
	var u disk.State
	var wide [][]byte
	for _, held := range s.Sectors {
		b := append(slices.Clone(held), text(70, 3)...)
		wide = append(wide, b)
		u.Sectors = append(u.Sectors, b[:len(held)])
	}
	for _, w := range s.Cache {
		b := append(slices.Clone(w.Data), text(70, 4)...)
		wide = append(wide, b)
		u.Cache = append(u.Cache, disk.Write{Sector: w.Sector, Data: b[:len(w.Data)]})
	}
	u.Sectors = append(u.Sectors, text(5, 5), text(6, 6))
	u.Cache = append(u.Cache, disk.Write{Sector: 5, Data: text(7, 7)}, disk.Write{Sector: 6, Data: text(8, 8)})
	whole := u
	u.Sectors = u.Sectors[:len(s.Sectors)]
	u.Cache = u.Cache[:len(s.Cache)]
	return u, func() disk.State {
		all := cloned(whole)
		for _, b := range wide {
			all.Sectors = append(all.Sectors, slices.Clone(b))
		}
		return all
	}
}

// flood overwrites all octets of a list and of the room that it has.
func flood(b []byte) {
	b = b[:cap(b)]
	for i := range b {
		b[i] ^= 0xff
	}
}

// floodAll overwrites all that a state holds, and its lists themselves with the room that they have.
func floodAll(s disk.State) {
	for _, held := range s.Sectors {
		flood(held)
	}
	for _, w := range s.Cache {
		flood(w.Data)
	}
	clear(s.Sectors[:cap(s.Sectors)])
	clear(s.Cache[:cap(s.Cache)])
}

// small are states of which each list can be overwritten in turn.
func small() []named {
	l := mayBe()[:6]
	return append(l,
		named{"several of each", written(filled(4, 1), 50, 0, 1, 3, 3, 0)},
		named{"1024 sectors", written(filled(1024, 1), 50, 0, 1023)})
}

// TestP4_6ArgumentsStay: no call changes what it is given, nor what lies behind it, be it refused or not.
func TestP4_6ArgumentsStay(t *testing.T) {
	for _, s := range append(small(), mayNotBe()...) {
		arg, whole := roomy(s.State)
		before := whole()
		for _, a := range acts() {
			a.do(arg)
			if !same(whole(), before) {
				t.Fatalf("%s of %s changed what it was given", a.what, s.what)
			}
		}
	}
	data := text(200, 1)
	for n := range 66 {
		disk.Put(filled(1, 1), 0, data[:n])
	}
	if !bytes.Equal(data, text(200, 1)) {
		t.Error("Put changed its data")
	}
	keep := []bool{true, false, true, true, false}
	disk.Crash(written(filled(2, 1), 50, 0, 1, 0, 1), keep[:3], 1, 9)
	if !slices.Equal(keep, []bool{true, false, true, true, false}) {
		t.Error("Crash changed keep")
	}
}

// TestP4_6AnswersAreNew: an answer that is overwritten with all its room leaves the argument and another answer
// as they were, and an argument that is overwritten leaves the answers.
func TestP4_6AnswersAreNew(t *testing.T) {
	for _, s := range small() {
		for _, a := range acts() {
			arg, whole := roomy(s.State)
			before := whole()
			first, second := a.do(arg), a.do(arg)
			want := cloned(second)
			if !same(first, want) {
				t.Errorf("%s of %s, twice: not the same", a.what, s.what)
			}
			floodAll(first)
			if !same(whole(), before) {
				t.Errorf("%s of %s shares memory with what it was given", a.what, s.what)
			}
			if !same(second, want) {
				t.Errorf("%s of %s: two answers share memory", a.what, s.what)
			}
			floodAll(arg)
			if !same(second, want) {
				t.Errorf("%s of %s hangs on what it was given", a.what, s.what)
			}
		}
	}
	data := text(64, 1)
	for _, n := range []int{3, 63, 64} {
		u, _ := disk.Put(filled(1, 1), 0, data[:n])
		want := padded(text(64, 1)[:n])
		flood(data)
		wantGet(t, "the data overwritten", u, 0, want)
		flood(data)
		flood(u.Cache[0].Data)
		if !bytes.Equal(data, text(64, 1)) {
			t.Errorf("Put of %d octets shares memory with its data", n)
		}
	}
}

// TestP4_6ListsOfOneAnswer: a sector or a write that is overwritten with all its room leaves all the others,
// even where one memory was handed in for all.
func TestP4_6ListsOfOneAnswer(t *testing.T) {
	for _, s := range small()[:7] {
		for _, a := range acts() {
			answer := a.do(s.State)
			lists := slices.Clone(answer.Sectors)
			for _, w := range answer.Cache {
				lists = append(lists, w.Data)
			}
			for i, list := range lists {
				others := slices.Concat(lists[:i], lists[i+1:])
				before := slices.Concat(others...)
				flood(list)
				if !bytes.Equal(slices.Concat(others...), before) {
					t.Errorf("%s of %s: list %d shares memory with another one", a.what, s.what, i)
				}
			}
		}
	}
	s := made(t, 1024)
	flood(s.Sectors[500])
	for i, held := range s.Sectors {
		if i != 500 && !bytes.Equal(held, make([]byte, 64)) {
			t.Errorf("New: sectors 500 and %d share memory", i)
		}
	}
	if u := made(t, 1024); !same(u, disk.State{Sectors: zeros(1024)}) {
		t.Error("New: two answers share memory")
	}
}

// TestNilAndEmpty are one to every call (P1 of DOC.md).
func TestNilAndEmpty(t *testing.T) {
	bare := filled(2, 1)
	empty := filled(2, 1)
	empty.Cache = []disk.Write{}
	for _, a := range acts() {
		if !same(a.do(bare), a.do(empty)) {
			t.Errorf("%s: a cache that is nil is not as one that is empty", a.what)
		}
	}
	s := written(filled(2, 1), 50, 0, 1)
	first, _ := disk.Crash(s, nil, 0, 5)
	second, _ := disk.Crash(s, []bool{}, 0, 5)
	if !same(first, second) {
		t.Error("Crash: a keep that is nil is not as one that is empty")
	}
	if !same(put(t, s, 1, nil), put(t, s, 1, []byte{})) {
		t.Error("Put: data that is nil is not as data that is empty")
	}
}

// TestSameAgain: many calls at one time do not come between one another (P3 of DOC.md).
func TestSameAgain(t *testing.T) {
	s := written(filled(16, 1), 50, 0, 3, 0, 15, 7)
	for _, a := range acts() {
		want := a.do(s)
		good := make(chan bool)
		for range 8 {
			go func() { good <- same(a.do(s), want) }()
		}
		for range 8 {
			if !<-good {
				t.Errorf("%s: one of many answered otherwise", a.what)
			}
		}
	}
}
