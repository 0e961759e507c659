// Package octet is layer 1: numbers and strings as bytes.
package octet

import "leat/api"

// head is the size of the number that stands ahead of a string.
const head = 4

// Put tells b, and n as a number of that size behind it.
func Put(b []byte, n uint64, size int) ([]byte, api.Errno) {
	most, ok := greatest(size)
	if !ok {
		return nil, api.ErrArg
	}
	if n > most {
		return nil, api.ErrMany
	}
	return behind(fresh(b, size), n, size), api.OK
}

// Take tells the number of that size that stands at a place, and the place behind it.
func Take(b []byte, at, size int) (n uint64, next int, e api.Errno) {
	if _, ok := greatest(size); !ok || at < 0 || at > len(b) {
		return 0, 0, api.ErrArg
	}
	if len(b)-at < size {
		return 0, 0, api.ErrBytes
	}
	for _, c := range b[at : at+size] {
		n = n<<8 | uint64(c)
	}
	return n, at + size, api.OK
}

// PutString tells b, and s as a string behind it.
func PutString(b, s []byte) ([]byte, api.Errno) {
	if len(s) > api.MaxDisk {
		return nil, api.ErrMany
	}
	return stringBehind(fresh(b, head+len(s)), s), api.OK
}

// TakeString tells the bytes of the string that stands at a place, and the place behind it.
func TakeString(b []byte, at, most int) (s []byte, next int, e api.Errno) {
	long, at, e := Take(b, at, head)
	if e != api.OK {
		return nil, 0, e
	}
	if most < 0 || long > uint64(most) {
		return nil, 0, api.ErrMany
	}
	if long > uint64(len(b)-at) {
		return nil, 0, api.ErrBytes
	}
	next = at + int(long)
	return fresh(b[at:next], 0), next, api.OK
}

// Strings tells all of l as strings, one behind the other.
func Strings(l ...[]byte) ([]byte, api.Errno) {
	var b []byte
	for _, s := range l {
		if len(s) > api.MaxDisk {
			return nil, api.ErrMany
		}
		b = stringBehind(b, s)
	}
	return b, api.OK
}

// Split tells the strings of which b are the bytes.
func Split(b []byte, most int) ([][]byte, api.Errno) {
	var l [][]byte
	for at := 0; at < len(b); {
		s, next, e := TakeString(b, at, most)
		if e != api.OK {
			return nil, e
		}
		l = append(l, s)
		at = next
	}
	return l, api.OK
}

// greatest tells the greatest number of a size, and whether there is such a size: each size adds the bytes that the next lesser one has not.
func greatest(size int) (n uint64, ok bool) {
	switch size {
	case 8:
		n |= 0xffffffff << 32
		fallthrough
	case 4:
		n |= 0xffff << 16
		fallthrough
	case 2:
		n |= 0xff << 8
		fallthrough
	case 1:
		return n | 0xff, true
	}
	return 0, false
}

// behind puts n behind b in place: b has to be the caller's own.
func behind(b []byte, n uint64, size int) []byte {
	switch size {
	case 8:
		b = append(b, byte(n>>56), byte(n>>48), byte(n>>40), byte(n>>32))
		fallthrough
	case 4:
		b = append(b, byte(n>>24), byte(n>>16))
		fallthrough
	case 2:
		b = append(b, byte(n>>8))
		fallthrough
	case 1:
		b = append(b, byte(n))
	}
	return b
}

// stringBehind puts s as a string behind b in place: b has to be the caller's own.
func stringBehind(b, s []byte) []byte {
	return append(behind(b, uint64(len(s)), head), s...)
}

// fresh is b in new memory, with room for more, so that nothing is written behind the end of what was handed in.
func fresh(b []byte, more int) []byte {
	out := make([]byte, len(b), len(b)+more)
	copy(out, b)
	return out
}
