package memory_test

import (
	"math"
	"slices"
	"strings"
	"testing"

	"transept/api"
	"transept/frames"
	"transept/wal"
)

// framed answers records as the octets of a segment, those of Kind 1 of which may be.
func framed(t *testing.T, kind byte, records ...string) []byte {
	t.Helper()
	var data []byte
	for _, r := range records {
		b, err := frames.Seal(frames.Frame{Kind: kind, Data: []byte(r)})
		if err != api.OK {
			t.Fatal("Seal:", err)
		}
		data = append(data, b...)
	}
	return data
}

// segLists are lists of segments: whole, with empty ones, torn, with a gap, with another kind, out of range.
func segLists(t *testing.T) [][]wal.Seg {
	t.Helper()
	whole := []wal.Seg{
		{First: 5, Data: framed(t, 1, "a", "bc")},
		{First: 7, Data: framed(t, 1, "")},
		{First: 8, Data: framed(t, 1, strings.Repeat("d", 300), "e")},
	}
	lists := [][]wal.Seg{nil, {}, whole, whole[:1], {whole[0], whole[2]}, {{}, {}}, {{First: -1}}, {{First: 1 << 40, Data: whole[0].Data}}}
	lists = append(lists, slices.Concat([]wal.Seg{{First: 5}}, whole[:1], []wal.Seg{{First: 7}}, whole[1:], []wal.Seg{{First: 10}}))
	for _, n := range []int{0, 1, 9, 10} {
		for at := range whole {
			torn := slices.Clone(whole)
			torn[at].Data = torn[at].Data[:min(n, len(torn[at].Data))]
			lists = append(lists, torn)
		}
	}
	other := slices.Clone(whole)
	other[2].Data = slices.Concat(framed(t, 1, "d"), framed(t, 2, "x"), framed(t, 1, "e"))
	return append(lists, other)
}

// walLogs are the logs of those segments, some of which may not be, with and without records that wait.
func walLogs(t *testing.T) []wal.Log {
	t.Helper()
	waits := [][][]byte{nil, {}, {nil}, {[]byte("w"), {}, []byte(strings.Repeat("v", 200))}}
	var l []wal.Log
	for _, segs := range segLists(t) {
		for _, wait := range waits {
			for _, next := range []int{5, 10} {
				l = append(l, wal.Log{Segs: segs, Next: next, Wait: wait})
			}
		}
	}
	return append(l,
		wal.Log{Next: api.MaxIndex, Wait: waits[3]},
		wal.Log{Wait: [][]byte{make([]byte, api.MaxPayload+1)}})
}

// recovered is Recover with its error ahead: ErrCorrupt stands beside a log and records.
func recovered(segs []wal.Seg) (api.Errno, wal.Log, [][]byte) {
	l, records, err := wal.Recover(segs)
	return err, l, records
}

func TestP8_7Memory(t *testing.T) {
	batches := [][][]byte{nil, {}, {nil, {}}, {[]byte("x"), []byte("yz")}, {make([]byte, api.MaxPayload+1)}}
	may := 0
	for _, l := range walLogs(t) {
		if wal.Check(l) == api.OK {
			may++
		}
		hold(t, "Check", wal.Check, l)
		for _, records := range batches {
			hold(t, "Append", wal.Append, l, records)
		}
		for _, limit := range []int{1, 9, 30, 1000, 1 << 20, 0, math.MinInt} {
			hold(t, "Flush", wal.Flush, l, limit)
		}
		for _, below := range []int{0, 7, 8, 9, math.MaxInt} {
			hold(t, "Truncate", wal.Truncate, l, below)
		}
		hold(t, "Records", wal.Records, l)
	}
	if may < 10 {
		t.Errorf("of the logs only %d may be", may)
	}
	for _, segs := range segLists(t) {
		hold(t, "Recover", recovered, segs)
	}
}

// TestP8_7RecoverRefused: beside ErrOrder nothing else is told.
func TestP8_7RecoverRefused(t *testing.T) {
	for _, segs := range segLists(t) {
		if _, _, err := wal.Recover(segs); err != api.ErrCorrupt {
			hold(t, "Recover", wal.Recover, segs)
		}
	}
}
