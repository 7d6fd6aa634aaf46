package raft_test

import (
	"fmt"
	"slices"
	"testing"

	"transept/api"
	"transept/raft"
)

// world is some replicas, the messages that are on their way between them, and what was seen of them from the beginning
// on.
type world struct {
	nodes   []raft.State
	air     []raft.Msg
	agreed  map[int]api.Entry // by number
	leaders map[int]int       // by term
	votes   map[[2]int]int    // for whom, by replica and term
	given   map[[2]int]int    // whom it told of a vote, by replica and term
	count   map[string]int
}

// newWorld answers n replicas that know of nothing.
func newWorld(t *testing.T, n int, roll func(n int) int) *world {
	t.Helper()
	w := &world{agreed: map[int]api.Entry{}, leaders: map[int]int{}, votes: map[[2]int]int{}, given: map[[2]int]int{}, count: map[string]int{}}
	for id := range n {
		var draws []int
		for range roll(4) * 10 {
			draws = append(draws, roll(2000)-1000)
		}
		s, err := raft.New(id, n, draws)
		if err != api.OK {
			t.Fatalf("New(%d, %d) is refused: %d", id, n, err)
		}
		w.nodes = append(w.nodes, s)
	}
	return w
}

// step takes one event to a replica, and looks at what follows. Nothing but a proposal is refused.
func (w *world) step(t *testing.T, id int, e raft.Event) {
	t.Helper()
	s := w.nodes[id]
	next, told, err := raft.Step(s, e)
	if err != api.OK {
		w.count["refused"]++
		if e.Kind != proposal || err != api.ErrState || s.Role == leader {
			t.Fatalf("Step(%s, %s) is refused: %d", short(s), short(e), err)
		}
		return
	}
	wantKept(t, s, next)
	w.nodes[id] = next
	w.look(t, s, next)
	for _, m := range told {
		if m.From != id || m.To == id || m.To < 0 || m.To >= len(w.nodes) || m.Term != next.Vote.Term {
			t.Fatalf("%s tells %s", short(next), short(m))
		}
		w.vote(t, next, m)
		w.count[fmt.Sprintf("told %d %v", m.Kind, m.OK)]++
	}
	w.air = append(w.air, told...)
}

// look holds what a replica has come to against what was seen of all ahead of it (G3).
func (w *world) look(t *testing.T, s, next raft.State) {
	t.Helper()
	for n := max(s.Commit, next.Log.Base) + 1; n <= next.Commit; n++ {
		e := next.Log.Entries[n-1-next.Log.Base]
		if had, ok := w.agreed[n]; ok && !sameEntries([]api.Entry{had}, []api.Entry{e}) {
			t.Fatalf("%d was agreed to be %s, and is %s now", n, short(had), short(e))
		} else if !ok {
			w.agreed[n] = e
			w.count["agreed"]++
		}
	}
	if next.Log.Base > 0 && string(next.Snap) != imageOf(next.Log.Base) {
		t.Fatalf("%s has a snapshot of something else", short(next))
	}
	if next.Role == leader {
		if had, ok := w.leaders[next.Vote.Term]; ok && had != next.ID {
			t.Fatalf("in term %d %d leads beside %d", next.Vote.Term, next.ID, had)
		} else if !ok {
			w.leaders[next.Vote.Term] = next.ID
			w.count["leaders"]++
		}
	}
	if next.Vote.Has {
		ballot := [2]int{next.ID, next.Vote.Term}
		if had, ok := w.votes[ballot]; ok && had != next.Vote.For {
			t.Fatalf("in term %d %d votes for %d beside %d", next.Vote.Term, next.ID, next.Vote.For, had)
		}
		w.votes[ballot] = next.Vote.For
	}
	if len(next.Log.Entries) > 0 && len(s.Log.Entries) > len(next.Log.Entries) && s.Log.Base == next.Log.Base {
		w.count["cut off"]++
	}
}

// vote holds a vote that is told to P17.4.
func (w *world) vote(t *testing.T, s raft.State, m raft.Msg) {
	t.Helper()
	if m.Kind != giveVote || !m.OK {
		return
	}
	ballot := [2]int{m.From, m.Term}
	if had, ok := w.given[ballot]; ok && had != m.To || w.votes[ballot] != m.To {
		t.Fatalf("%s gives %d a vote beside %d", short(s), m.To, had)
	}
	w.given[ballot] = m.To
}

// imageOf is a snapshot up to that number.
func imageOf(index int) string { return fmt.Sprintf("up to %d", index) }

// deliver takes the message at that place to whom it is for; it stays on its way if it is doubled.
func (w *world) deliver(t *testing.T, at int, doubled bool) {
	t.Helper()
	m := w.air[at]
	if !doubled {
		w.air = slices.Delete(w.air, at, at+1)
	}
	w.step(t, m.To, raft.Event{Kind: message, Msg: m})
}

// restart lets a replica crash.
func (w *world) restart(t *testing.T, id int) {
	t.Helper()
	s := w.nodes[id]
	next, err := raft.Restart(s)
	if err != api.OK || !sameState(next, restarted(s)) || !mayBe(next) {
		t.Fatalf("Restart(%s) = %s, %d", short(s), short(next), err)
	}
	w.nodes[id] = next
	w.count["restarts"]++
}

// snapshot leaves some of what is agreed to a snapshot.
func (w *world) snapshot(t *testing.T, id, less int) {
	t.Helper()
	s := w.nodes[id]
	if index := max(s.Commit-less, s.Log.Base); index > 0 {
		w.step(t, id, raft.Event{Kind: snapshot, Index: index, Snap: []byte(imageOf(index))})
	}
}

// chance does one thing by chance. The higher trouble is, the more is lost, doubled and late.
func (w *world) chance(t *testing.T, roll func(n int) int, trouble int, i int) {
	t.Helper()
	id := roll(len(w.nodes))
	switch what := roll(100); {
	case what < 40:
		w.step(t, id, raft.Event{Kind: tick})
	case what < 44:
		w.step(t, id, raft.Event{Kind: proposal, Data: fmt.Appendf(nil, "proposal %d", i)})
	case what < 46:
		for at := range w.nodes {
			w.step(t, at, raft.Event{Kind: proposal, Data: fmt.Appendf(nil, "all %d", i)})
		}
	case what < 47:
		w.snapshot(t, id, roll(4))
	case what < 48 && trouble > 0:
		w.restart(t, id)
	case len(w.air) == 0:
	case roll(20) < trouble:
		switch at := roll(len(w.air)); roll(3) {
		case 0:
			w.air = slices.Delete(w.air, at, at+1)
			w.count["lost"]++
		case 1:
			w.deliver(t, at, true)
			w.count["doubled"]++
		case 2:
			w.deliver(t, at, false)
			w.count["late"]++
		}
	default:
		w.deliver(t, 0, false)
	}
	if len(w.air) > 200 {
		w.air = slices.Delete(w.air, 0, 50)
	}
}

// settles lets all be well for so many rounds, and tells whether all agree then.
func (w *world) settles(t *testing.T, rounds int) bool {
	t.Helper()
	for range rounds {
		for range len(w.air) {
			w.deliver(t, 0, false)
		}
		for id := range w.nodes {
			w.step(t, id, raft.Event{Kind: tick})
		}
		if w.agree() {
			return true
		}
	}
	return false
}

// agree tells whether one leads, and all others follow it and have agreed upon all that it has.
func (w *world) agree() bool {
	at := slices.IndexFunc(w.nodes, func(s raft.State) bool { return s.Role == leader })
	if at < 0 {
		return false
	}
	l := w.nodes[at]
	return !slices.ContainsFunc(w.nodes, func(s raft.State) bool {
		return !s.HasLeader || s.Leader != at || s.Vote.Term != l.Vote.Term || last(s.Log) != last(l.Log) || s.Commit != last(l.Log)
	})
}

// play plays some worlds, and answers what was seen of all of them.
func play(t *testing.T, seed uint32, worlds, steps, trouble int) map[string]int {
	t.Helper()
	roll := dice(seed)
	count := map[string]int{}
	for i := range worlds {
		w := newWorld(t, 1+i%9, roll)
		for at := range steps {
			w.chance(t, roll, trouble, at)
			if t.Failed() {
				return nil
			}
		}
		if !w.settles(t, 1000) {
			t.Errorf("%d replicas do not agree: %s", len(w.nodes), short(w.nodes))
		}
		for what, n := range w.count {
			count[what] += n
		}
	}
	return count
}

func wantCount(t *testing.T, count map[string]int, least map[string]int) {
	t.Helper()
	for what, n := range least {
		if count[what] < n {
			t.Errorf("only %d of: %s, of %v", count[what], what, count)
		}
	}
}

// TestP17_3Worlds: elections and logs of one to nine replicas, with messages that are lost, doubled and late, and with
// crashes; P17.3 and P17.4 are looked at behind each step, and that all agree at the end.
func TestP17_3Worlds(t *testing.T) {
	count := play(t, 173, 72, 3000, 5)
	wantCount(t, count, map[string]int{"leaders": 200, "agreed": 1000, "restarts": 500, "lost": 1000, "doubled": 1000, "late": 1000, "cut off": 10,
		"told 2 true": 200, "told 2 false": 100, "told 4 true": 1000, "told 4 false": 100, "told 5 false": 20})
}

// TestP17_3Trouble: the same with most messages lost, doubled or late.
func TestP17_3Trouble(t *testing.T) {
	count := play(t, 1703, 72, 3000, 16)
	wantCount(t, count, map[string]int{"leaders": 200, "agreed": 300, "lost": 9000, "doubled": 9000, "late": 9000, "cut off": 10, "told 5 false": 50})
}

// TestP17_3Calm: without trouble few terms are enough, and much is agreed upon.
func TestP17_3Calm(t *testing.T) {
	count := play(t, 3, 45, 3000, 0)
	wantCount(t, count, map[string]int{"leaders": 45, "agreed": 2000})
	if count["told 4 true"] < 10*count["told 4 false"] {
		t.Errorf("too much does not join: %v", count)
	}
}

// TestP17_4Votes: one replica that is asked by all others, again and again, in terms that go up and down.
func TestP17_4Votes(t *testing.T) {
	roll := dice(174)
	given, kept := 0, 0
	for i := range 200 {
		n := 2 + i%8
		s, _ := raft.New(i%n, n, []int{1, 2, 3, 4, 5, 6, 7, 8, 9})
		if roll(2) == 0 {
			s.Vote.Term, s.Log = 1, logOf(0, 0, 1, 1)
		}
		votes := map[int]int{}
		for range 300 {
			m := raft.Msg{Kind: askVote, From: roll(n), To: s.ID, Term: max(s.Vote.Term+roll(5)-3, 1), Last: roll(4), LastTerm: roll(3)}
			e := raft.Event{Kind: message, Msg: m}
			if m.From == s.ID || roll(10) == 0 {
				e = raft.Event{Kind: tick}
			}
			next, told, err := raft.Step(s, e)
			if err != api.OK {
				t.Fatalf("Step(%s, %s) is refused: %d", short(s), short(e), err)
			}
			wantKept(t, s, next)
			s = next
			if e.Kind == tick {
				if had, ok := votes[s.Vote.Term]; s.Role == candidate && ok && had != s.ID {
					t.Fatalf("%s stands, but its vote went to %d", short(s), had)
				}
				if s.Role == candidate {
					votes[s.Vote.Term] = s.ID
				}
				continue
			}
			if len(told) != 1 || told[0].Kind != giveVote || told[0].To != m.From {
				t.Fatalf("to %+v it tells %+v", m, told)
			}
			if !told[0].OK {
				kept++
				continue
			}
			given++
			if had, ok := votes[m.Term]; ok && had != m.From {
				t.Fatalf("in term %d %d has a vote beside %d", m.Term, m.From, had)
			}
			votes[m.Term] = m.From
		}
	}
	if given < 2000 || kept < 10000 {
		t.Errorf("only %d votes were given, and %d not", given, kept)
	}
}
