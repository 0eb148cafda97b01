package image_test

import (
	"bytes"
	"slices"
	"strings"
	"testing"

	"astrolabe/api"
	"astrolabe/image"
)

// The reckoning of the tests is the chapters', written apart from the layers: sums doubling by doubling, numbers by quotients and rests, bytes by the places where they stand.

// sum is that of bytes.
func sum(b []byte) int {
	c := 65535
	for _, x := range b {
		c ^= 256 * int(x)
		for range 8 {
			c *= 2
			if c >= 65536 {
				c = (c - 65536) ^ 4129
			}
		}
	}
	return c
}

// sealed are bytes with their sum behind.
func sealed(parts ...string) []byte {
	var b []byte
	for _, p := range parts {
		b = append(b, p...)
	}
	c := sum(b)
	return append(b, byte(c/256), byte(c%256))
}

// number is a number in so many bytes.
func number(n int64, size int) string {
	b := make([]byte, size)
	for i := range b {
		// A number below 0 has the bytes of what is the same modulo 2^32.
		low := (n%256 + 256) % 256
		b[size-1-i] = byte(low)
		n = (n - low) / 256
	}
	return string(b)
}

// told is the number of some bytes.
func told(b []byte) int64 {
	n := int64(0)
	for _, x := range b {
		n = 256*n + int64(x)
	}
	return n
}

// code is some words of code, and how many there are.
func code(l []uint32) string {
	var b strings.Builder
	b.WriteString(number(int64(len(l)), 2))
	for _, w := range l {
		b.WriteString(number(int64(w), 4))
	}
	return b.String()
}

// data is some words of memory, of each whether it is secret, and how many there are.
func data(l []int32, secret []bool) string {
	var b strings.Builder
	b.WriteString(number(int64(len(l)), 2))
	for i, x := range l {
		b.WriteString(number(int64(x), 4))
		if secret[i] {
			b.WriteByte(1)
		} else {
			b.WriteByte(0)
		}
	}
	return b.String()
}

// addrs is some addresses, and how many there are.
func addrs(l []int) string {
	s := number(int64(len(l)), 1)
	for _, a := range l {
		s += number(int64(a), 2)
	}
	return s
}

// inner are the bytes of an image without their sum, though it may not be one that may be.
func inner(m api.Image) string {
	return "AST1" + code(m.Code) + data(m.Data, m.Secret) + addrs(m.In) + addrs(m.Out)
}

// plainCheck is what the chapter says of an image.
func plainCheck(m api.Image) api.Errno {
	if len(m.Code) > 16384 || len(m.Data) > 2048 || len(m.In) > 255 || len(m.Out) > 255 {
		return api.ErrLong
	}
	if len(m.Secret) != len(m.Data) {
		return api.ErrArg
	}
	times := map[int]int{}
	for _, a := range m.In {
		times[a]++
	}
	for _, a := range append(slices.Clone(m.Out), m.In...) {
		if a < 0 || a > len(m.Data)-1 {
			return api.ErrArg
		}
	}
	for _, n := range times {
		if n > 1 {
			return api.ErrTwice
		}
	}
	return api.OK
}

// plainGet is what the chapter says of bytes.
func plainGet(b []byte) (api.Image, api.Errno) {
	at := len(b) - 2
	if at < 0 {
		return api.Image{}, api.ErrShort
	}
	if told(b[at:]) != int64(sum(b[:at])) {
		return api.Image{}, api.ErrSum
	}
	m, rest, e := plainRead(b[:at])
	switch {
	case e != api.OK:
		return api.Image{}, e
	case rest > 0:
		return api.Image{}, api.ErrLong
	case plainCheck(m) != api.OK:
		return api.Image{}, plainCheck(m)
	}
	return m, api.OK
}

// plainRead is the image that bytes begin with, and how many are left.
func plainRead(b []byte) (m api.Image, rest int, e api.Errno) {
	if len(b) < 4 {
		return m, 0, api.ErrShort
	}
	if b[0] != 65 || b[1] != 83 || b[2] != 84 || b[3] != 49 {
		return m, 0, api.ErrForm
	}
	at := 4
	if m.Code, at, e = plainCode(b, at); e != api.OK {
		return m, 0, e
	}
	if m.Data, m.Secret, at, e = plainData(b, at); e != api.OK {
		return m, 0, e
	}
	if m.In, at, e = plainAddrs(b, at); e != api.OK {
		return m, 0, e
	}
	if m.Out, at, e = plainAddrs(b, at); e != api.OK {
		return m, 0, e
	}
	return m, len(b) - at, api.OK
}

// plainCode is the code that stands at a place of bytes, and the place behind it.
func plainCode(b []byte, at int) ([]uint32, int, api.Errno) {
	if len(b) < at+2 {
		return nil, 0, api.ErrShort
	}
	end := at + 2 + 4*int(told(b[at:at+2]))
	if len(b) < end {
		return nil, 0, api.ErrShort
	}
	var l []uint32
	for at += 2; at < end; at += 4 {
		l = append(l, uint32(told(b[at:at+4])))
	}
	return l, end, api.OK
}

// plainData is the data that stands at a place of bytes, whether it is secret, and the place behind it.
func plainData(b []byte, at int) ([]int32, []bool, int, api.Errno) {
	if len(b) < at+2 {
		return nil, nil, 0, api.ErrShort
	}
	var l []int32
	var secret []bool
	n := int(told(b[at : at+2]))
	at += 2
	for ; n > 0; n-- {
		if len(b) < at+5 {
			return nil, nil, 0, api.ErrShort
		}
		x := told(b[at : at+4])
		if x >= 1<<31 {
			x -= 1 << 32
		}
		if b[at+4] > 1 {
			return nil, nil, 0, api.ErrForm
		}
		l, secret = append(l, int32(x)), append(secret, b[at+4] == 1)
		at += 5
	}
	return l, secret, at, api.OK
}

// plainAddrs are the addresses that stand at a place of bytes, and the place behind them.
func plainAddrs(b []byte, at int) ([]int, int, api.Errno) {
	if len(b) < at+1 {
		return nil, 0, api.ErrShort
	}
	end := at + 1 + 2*int(b[at])
	if len(b) < end {
		return nil, 0, api.ErrShort
	}
	var l []int
	for at++; at < end; at += 2 {
		l = append(l, int(told(b[at:at+2])))
	}
	return l, end, api.OK
}

// clone is an image that shares nothing with m.
func clone(m api.Image) api.Image {
	return api.Image{Code: slices.Clone(m.Code), Data: slices.Clone(m.Data), Secret: slices.Clone(m.Secret), In: slices.Clone(m.In), Out: slices.Clone(m.Out)}
}

// alike: are two images one?
func alike(a, b api.Image) bool {
	return slices.Equal(a.Code, b.Code) && slices.Equal(a.Data, b.Data) && slices.Equal(a.Secret, b.Secret) && slices.Equal(a.In, b.In) && slices.Equal(a.Out, b.Out)
}

// small is an image told in few words, where it is long.
func small(m api.Image) api.Image {
	return api.Image{Code: m.Code[:min(3, len(m.Code))], Data: m.Data[:min(3, len(m.Data))], Secret: m.Secret[:min(3, len(m.Secret))], In: m.In[:min(9, len(m.In))], Out: m.Out[:min(9, len(m.Out))]}
}

// check holds that Check tells an error, and leaves the image as it is.
func check(t *testing.T, m api.Image, want api.Errno) {
	t.Helper()
	same := clone(m)
	if e := image.Check(m); e != want {
		t.Fatalf("Check(%+v) = %v, want %v", small(m), e, want)
	}
	if !alike(m, same) {
		t.Fatalf("Check made %+v of %+v", small(m), small(same))
	}
}

// checkRefused holds that an image may not be, and why, and that there are no bytes of it.
func checkRefused(t *testing.T, m api.Image, want api.Errno) {
	t.Helper()
	check(t, m, want)
	same := clone(m)
	if b, e := image.Put(m); e != want || len(b) != 0 {
		t.Fatalf("Put(%+v) = %.20v, %v, want none, %v", small(m), b, e, want)
	}
	if !alike(m, same) {
		t.Fatalf("Put made %+v of %+v", small(m), small(same))
	}
}

// checkPut holds that an image may be, which bytes it has, and that it is got from them.
func checkPut(t *testing.T, m api.Image, want []byte) {
	t.Helper()
	check(t, m, api.OK)
	same := clone(m)
	b, e := image.Put(m)
	if e != api.OK || !bytes.Equal(b, want) {
		t.Fatalf("Put(%+v) = %.60v (%d bytes), %v, want %.60v (%d bytes)", small(m), b, len(b), e, want, len(want))
	}
	if !alike(m, same) {
		t.Fatalf("Put made %+v of %+v", small(m), small(same))
	}
	checkGot(t, b, m)
}

// checkGot holds that bytes are an image's, and that it is put to just those.
func checkGot(t *testing.T, b []byte, want api.Image) {
	t.Helper()
	same := slices.Clone(b)
	m, e := image.Get(b)
	if e != api.OK || !alike(m, want) {
		t.Fatalf("Get(%.60v) = %+v, %v, want %+v", b, small(m), e, small(want))
	}
	if !bytes.Equal(b, same) {
		t.Fatalf("Get made %.60v of %.60v", b, same)
	}
	if again, e := image.Put(m); e != api.OK || !bytes.Equal(again, b) {
		t.Fatalf("%.60v was got, and put to %.60v, %v", b, again, e)
	}
}

// checkUngot holds that bytes are no image's, and why.
func checkUngot(t *testing.T, b []byte, want api.Errno) {
	t.Helper()
	same := slices.Clone(b)
	m, e := image.Get(b)
	if e != want || !alike(m, api.Image{}) {
		t.Fatalf("Get(%.80v) (%d bytes) = %+v, %v, want none, %v", b, len(b), small(m), e, want)
	}
	if !bytes.Equal(b, same) {
		t.Fatalf("Get made %.60v of %.60v", b, same)
	}
}

// checkImage holds what both say of an image.
func checkImage(t *testing.T, m api.Image) api.Errno {
	t.Helper()
	e := plainCheck(m)
	if e == api.OK {
		checkPut(t, m, sealed(inner(m)))
	} else {
		checkRefused(t, m, e)
	}
	return e
}

// checkBytes holds what Get says of bytes.
func checkBytes(t *testing.T, b []byte) api.Errno {
	t.Helper()
	m, e := plainGet(b)
	if e == api.OK {
		checkGot(t, b, m)
	} else {
		checkUngot(t, b, e)
	}
	return e
}
