package memory_test

import (
	"bytes"
	"math"
	"slices"
	"testing"

	"transept/api"
	"transept/disk"
	"transept/pages"
)

// pageDisks are disks with a page on them, one over it in the cache, no room in the cache, and none that may be.
func pageDisks(t *testing.T) []disk.State {
	t.Helper()
	d, _ := disk.New(6)
	d, err := pages.Write(d, 1, 7, []byte("old"))
	if err != api.OK {
		t.Fatal("Write:", err)
	}
	d, _ = disk.Flush(d)
	over, _ := pages.Write(d, 1, 7, bytes.Repeat([]byte("new"), 80))
	full := disk.State{Sectors: d.Sectors, Cache: slices.Repeat(over.Cache, api.MaxRecords/4)}
	full.Cache = full.Cache[:api.MaxRecords-2]
	return []disk.State{{}, d, over, full, {Sectors: d.Sectors[:3]}, {Sectors: d.Sectors, Cache: []disk.Write{{Sector: 9}}}}
}

func TestP7_6Memory(t *testing.T) {
	page, _ := pages.Encode(7, []byte("text"))
	long, _ := pages.Encode(7, bytes.Repeat([]byte("l"), 244))
	lists := [][]byte{nil, {}, []byte("x"), page, page[:255], page[:244], page[:245], long, append(slices.Clone(long), 0), make([]byte, 256)}
	for _, b := range lists {
		hold(t, "Decode", pages.Decode, b)
		for _, id := range []int{0, 7, -1, 1 << 31, math.MaxInt} {
			hold(t, "Encode", pages.Encode, id, b)
		}
	}
	for _, d := range pageDisks(t) {
		for _, at := range []int{0, 1, 2, 3, -1, math.MaxInt} {
			for _, id := range []int{7, 8, -1} {
				hold(t, "Read", pages.Read, d, at, id)
				hold(t, "Write", pages.Write, d, at, id, []byte("text"))
			}
			hold(t, "Write", pages.Write, d, at, 7, page)
		}
	}
}
