// Package tlv reads and writes the headers of DER values: identifier and length.
package tlv

import (
	"math/bits"

	"sobriquet/api"
)

const (
	consBit   = 0x20 // of the first byte: the value is constructed
	longTag   = 31   // the tag bits of the first byte when a long tag follows
	moreBit   = 0x80 // of a byte of a long tag: a further one follows
	groupSize = 7    // the bits of the tag in each byte of a long tag
	groupMask = 1<<groupSize - 1
	longLen   = 0x80 // the first length byte, less the number of bytes that follow
	maxBytes  = 4    // the most bytes that a length up to api.MaxLen needs
)

// Read returns the header with which b begins.
func Read(b []byte) (api.Head, api.Errno) {
	if len(b) == 0 {
		return api.Head{}, api.ErrShort
	}
	h := api.Head{Class: int(b[0] >> 6), Tag: int(b[0] & longTag), Cons: b[0]&consBit != 0, Size: 1}
	if h.Tag == longTag {
		tag, n, e := readTag(b[h.Size:])
		if e != api.OK {
			return api.Head{}, e
		}
		h.Tag = tag
		h.Size += n
	}
	length, n, e := readLength(b[h.Size:])
	if e != api.OK {
		return api.Head{}, e
	}
	h.Len = length
	h.Size += n
	return h, api.OK
}

// readTag returns the long tag with which b begins, and its number of bytes.
func readTag(b []byte) (tag, size int, e api.Errno) {
	for i, x := range b {
		if i == 0 && x == moreBit {
			return 0, 0, api.ErrTag
		}
		tag = tag<<groupSize | int(x&groupMask)
		if tag > api.MaxTag {
			return 0, 0, api.ErrTag
		}
		if x&moreBit != 0 {
			continue
		}
		if tag < longTag {
			return 0, 0, api.ErrTag
		}
		return tag, i + 1, api.OK
	}
	return 0, 0, api.ErrShort
}

// readLength returns the length with which b begins, and its number of bytes.
func readLength(b []byte) (length, size int, e api.Errno) {
	if len(b) == 0 {
		return 0, 0, api.ErrShort
	}
	if b[0] < longLen {
		return int(b[0]), 1, api.OK
	}
	n := int(b[0]) - longLen
	if n == 0 || n > maxBytes {
		return 0, 0, api.ErrLength
	}
	for i := 1; i <= n; i++ {
		if i == len(b) {
			return 0, 0, api.ErrShort
		}
		if i == 1 && b[i] == 0 {
			return 0, 0, api.ErrLength
		}
		length = length<<8 | int(b[i])
	}
	if length > api.MaxLen || length < longLen {
		return 0, 0, api.ErrLength
	}
	return length, 1 + n, api.OK
}

// Bytes returns the encoding of h, whose Size is ignored.
func Bytes(h api.Head) ([]byte, api.Errno) {
	if !valid(h) {
		return nil, api.ErrArg
	}
	return appendLength(appendIdentifier(nil, h), h.Len), api.OK
}

// valid reports whether h has an encoding.
func valid(h api.Head) bool {
	return 0 <= h.Class && h.Class <= 3 &&
		0 <= h.Tag && h.Tag <= api.MaxTag &&
		0 <= h.Len && h.Len <= api.MaxLen
}

// appendIdentifier appends the class, the form and the tag of h to b.
func appendIdentifier(b []byte, h api.Head) []byte {
	first := byte(h.Class << 6)
	if h.Cons {
		first |= consBit
	}
	if h.Tag < longTag {
		return append(b, first|byte(h.Tag))
	}
	b = append(b, first|longTag)
	groups := (bits.Len(uint(h.Tag)) + groupSize - 1) / groupSize
	for i := groups - 1; i > 0; i-- {
		b = append(b, moreBit|byte(h.Tag>>(groupSize*i)))
	}
	return append(b, byte(h.Tag&groupMask))
}

// appendLength appends the length bytes for n to b.
func appendLength(b []byte, n int) []byte {
	if n < longLen {
		return append(b, byte(n))
	}
	count := (bits.Len(uint(n)) + 7) / 8
	b = append(b, longLen+byte(count))
	for i := count - 1; i >= 0; i-- {
		b = append(b, byte(n>>(8*i)))
	}
	return b
}

// One splits b into the header with which it begins, the content, and the rest.
func One(b []byte) (h api.Head, content, rest []byte, e api.Errno) {
	h, e = Read(b)
	if e != api.OK {
		return api.Head{}, nil, nil, e
	}
	if h.Len > len(b)-h.Size {
		return api.Head{}, nil, nil, api.ErrShort
	}
	end := h.Size + h.Len
	return h, fresh(b[h.Size:end]), fresh(b[end:]), api.OK
}

// fresh returns a copy of b, since a result may not share memory with an argument.
func fresh(b []byte) []byte {
	return append(make([]byte, 0, len(b)), b...)
}

// Wrap returns the encoding of h with the length of the content, and the content after it.
func Wrap(h api.Head, content []byte) ([]byte, api.Errno) {
	h.Len = len(content)
	head, e := Bytes(h)
	if e != api.OK {
		return nil, e
	}
	b := make([]byte, 0, len(head)+len(content))
	return append(append(b, head...), content...), api.OK
}
