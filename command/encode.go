package command

import (
	"transept/api"
	"transept/octets"
)

const (
	version1 = 1
	version2 = 2

	// Version 1 has no form for an activation, nor for more ops than these.
	mostOps1 = 4

	// How many octets a number has; groups have as many as it takes.
	numberSize = 1
	txnSize1   = 8
	valueSize1 = 2

	groupBits  = 7
	moreMark   = 1 << groupBits
	mostGroups = 6
)

// Encode answers c's octets in that version.
func Encode(c api.Command, version int) ([]byte, api.Errno) {
	if err := Check(c); err != api.OK {
		return nil, err
	}
	if !hasForm(c, version) {
		return nil, api.ErrVersion
	}
	b := appendNumber(nil, version, numberSize)
	b = appendNumber(b, c.Kind, numberSize)
	if version == version1 {
		b = appendNumber(b, c.Txn, txnSize1)
	} else {
		b = appendGroups(b, c.Txn)
	}
	b = appendNumber(b, c.Home, numberSize)
	b = appendNumber(b, c.Verdict, numberSize)
	b = appendNumber(b, len(c.Ops), numberSize)
	for _, o := range c.Ops {
		b = appendOp(b, o, version)
	}
	return b, api.OK
}

// hasForm tells whether that version is one, and has a form for c, a command that may be.
func hasForm(c api.Command, version int) bool {
	switch version {
	case version1:
		return c.Kind != activate && len(c.Ops) <= mostOps1
	case version2:
		return true
	}
	return false
}

// appendOp answers b with o behind it. Version 1 has each length ahead of its text, version 2 both ahead of both.
func appendOp(b []byte, o api.Op, version int) []byte {
	b = appendNumber(b, o.Kind, numberSize)
	b = appendNumber(b, len(o.Key), numberSize)
	if version == version1 {
		b = append(b, o.Key...)
		b = appendNumber(b, len(o.Value), valueSize1)
		return append(b, o.Value...)
	}
	b = appendNumber(b, len(o.Value), numberSize)
	b = append(b, o.Key...)
	return append(b, o.Value...)
}

// appendNumber answers b with n behind it, in so many octets: of a command that may be, each number fits.
func appendNumber(b []byte, n int, size int) []byte {
	o, _ := octets.Put(uint64(n), size)
	return append(b, o...)
}

// appendGroups answers b with n behind it in groups, the lowest first: none is laid for what is 0 above the last.
func appendGroups(b []byte, n int) []byte {
group:
	if n < moreMark {
		return append(b, byte(n))
	}
	b = append(b, byte(n%moreMark)|moreMark)
	n >>= groupBits
	goto group
}
