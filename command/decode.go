package command

import (
	"transept/api"
	"transept/octets"
)

// Decode answers the command that b is, and in which version.
func Decode(b []byte) (api.Command, int, api.Errno) {
	c, version, err := read(b)
	if err != api.OK {
		return api.Command{}, 0, err
	}
	if err := Check(c); err != api.OK {
		return api.Command{}, 0, err
	}
	if !hasForm(c, version) {
		return api.Command{}, 0, api.ErrVersion
	}
	return c, version, api.OK
}

// read answers the command that b lays out, whether it may be or not, and in which version; beside an error what was
// read ahead of it.
func read(b []byte) (c api.Command, version int, err api.Errno) {
	defer func() {
		if why := recover(); why != nil {
			// What is no stop was not the reader's to tell: it goes on as a panic.
			err = why.(stop).err
		}
	}()
	r := reader{rest: b}
	version = r.version()
	c.Kind = r.number(numberSize)
	if version == version1 {
		c.Txn = r.number(txnSize1)
	} else {
		c.Txn = r.groups()
	}
	c.Home = r.number(numberSize)
	c.Verdict = r.number(numberSize)
	for range r.number(numberSize) {
		c.Ops = append(c.Ops, r.op(version))
	}
	r.end()
	return c, version, api.OK
}

// stop is what a reader panics with.
type stop struct{ err api.Errno }

// reader takes octets from the front of rest, and panics with a stop where they are not what they should be: so the
// first one that is wrong tells the error, and who reads need not ask.
type reader struct{ rest []byte }

// take answers the next size octets.
func (r *reader) take(size int) []byte {
	if size > len(r.rest) {
		panic(stop{api.ErrShort})
	}
	taken := r.rest[:size]
	r.rest = r.rest[size:]
	return taken
}

// number answers the next size octets as a number; one that an int has no room for is below 0, which Check refuses.
func (r *reader) number(size int) int {
	n, _ := octets.Get(r.take(size))
	return int(n)
}

// text answers the next size octets as a text.
func (r *reader) text(size int) string {
	return string(r.take(size))
}

// version answers the version that the octets begin with.
func (r *reader) version() int {
	version := r.number(numberSize)
	if version != version1 && version != version2 {
		panic(stop{api.ErrVersion})
	}
	return version
}

// groups answers the number that the next groups are. The last of as many as may be stops the reader if it tells of
// one more, whether that is there or not.
func (r *reader) groups() int {
	n := 0
	for i := range mostGroups {
		group := r.number(numberSize)
		n |= group % moreMark << (groupBits * i)
		switch {
		case group == 0 && i > 0:
			panic(stop{api.ErrRange})
		case group < moreMark:
			return n
		}
	}
	panic(stop{api.ErrRange})
}

// op answers the next op.
func (r *reader) op(version int) api.Op {
	o := api.Op{Kind: r.number(numberSize)}
	keySize := r.number(numberSize)
	if version == version1 {
		o.Key = r.text(keySize)
		o.Value = r.text(r.number(valueSize1))
		return o
	}
	valueSize := r.number(numberSize)
	o.Key = r.text(keySize)
	o.Value = r.text(valueSize)
	return o
}

// end stops the reader if octets are left.
func (r *reader) end() {
	if len(r.rest) > 0 {
		panic(stop{api.ErrTail})
	}
}
