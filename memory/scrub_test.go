package memory_test

import (
	"math"
	"slices"
	"testing"

	"transept/api"
	"transept/scrub"
)

func TestP12_5Memory(t *testing.T) {
	places := []scrub.Place{{At: 2, ID: 7}, {At: 1, ID: 7}, {At: 1, ID: 8}, {At: 0, ID: 7}, {At: 0, ID: 7}, {At: -1, ID: math.MaxInt}, {At: math.MinInt}}
	told := 0
	for _, d := range pageDisks(t) {
		for n := range len(places) + 1 {
			hold(t, "Pages", scrub.Pages, d, places[:n])
		}
		hold(t, "Pages", scrub.Pages, d, slices.Repeat(places[:1], api.MaxRecords+1))
		// Counted behind hold: a call that lays the same again and again would leave nothing for it to see.
		l, _ := scrub.Pages(d, places)
		told += len(l)
	}
	for _, segs := range segLists(t) {
		hold(t, "Segs", scrub.Segs, segs)
		told += len(scrub.Segs(segs))
	}
	if told < 30 {
		t.Errorf("of all pages and segments only %d are damaged", told)
	}
	damages := []scrub.Damage{{Kind: 1, At: 90}, {Kind: 1, At: 8}, {Kind: 2, At: 90}, {Kind: 1, At: 4}, {Kind: 1, At: -1}, {At: 3}, {Kind: 1, At: 4}, {Kind: 1, At: 1 << 20}}
	for from := range damages {
		for to := range len(damages) + 1 {
			if from <= to {
				hold(t, "Ranges", scrub.Ranges, damages[from:to])
				hold(t, "Verdict", scrub.Verdict, damages[from:to])
			}
		}
	}
	hold(t, "Ranges", scrub.Ranges, []scrub.Damage(nil))
	hold(t, "Verdict", scrub.Verdict, []scrub.Damage(nil))
}
