package record

import (
	"math"
	"slices"
	"testing"

	"colophon/api"
)

// roomy is a list with others behind its length in its memory, and all of that memory.
func roomy[T any](l []T, behind ...T) (short, all []T) {
	all = slices.Concat(l, behind)
	return all[:len(l)], all
}

// spoil overwrites a list, its spare room too.
func spoil[T any](l []T, with T) {
	l = l[:cap(l)]
	for i := range l {
		l[i] = with
	}
}

func TestRule1NoneOfThemPanics(t *testing.T) {
	good, _ := logOf(1, 1, rising(3), nil)
	lists := [][]byte{nil, {}, list[byte](255), slices.Repeat(list[byte](255), 13), slices.Repeat(list[byte](255), 14), slices.Repeat(list[byte](255), 70000), make([]byte, 14), make([]byte, 5000), good, good[:20], rising(4096), rising(4097), framed(4096, 1, 1, nil), framed(65535, 1, 1, nil)}
	numbers := slices.Concat(none, ones, list(4095, 4096, 4097, math.MaxInt32-1))
	for _, epoch := range numbers {
		Size(epoch)
		for _, seq := range numbers {
			for _, b := range lists {
				Bytes(epoch, seq, b)
				Read(b, epoch, seq)
				Scan(b, epoch, seq)
			}
		}
	}
}

func TestRule2WithAnErrorNothingElse(t *testing.T) {
	good := recordOf(1, 1, rising(3))
	turned := slices.Clone(good)
	turned[11] ^= 4
	for _, b := range [][]byte{nil, good[:13], good[:16], framed(4097, 1, 1, rising(4097)), turned, recordOf(2, 1, rising(3)), recordOf(1, 2, rising(3))} {
		if body, size, e := Read(b, 1, 1); e == api.OK || len(body) != 0 || size != 0 {
			t.Errorf("Read(%s, 1, 1): %s, %d, %d", short(b), short(body), size, e)
		}
	}
	if b, e := Bytes(0, 1, rising(3)); e != api.ErrArg || len(b) != 0 {
		t.Errorf("Bytes(0, 1, 3 bytes): %s, %d", short(b), e)
	}
	if b, e := Bytes(1, 1, rising(4097)); e != api.ErrBig || len(b) != 0 {
		t.Errorf("Bytes(1, 1, 4097 bytes): %s, %d", short(b), e)
	}
	if bodies, end, e := Scan(good, 1, 0); e != api.ErrArg || len(bodies) != 0 || end != 0 {
		t.Errorf("Scan(.., 1, 0): %v, %d, %d", bodies, end, e)
	}
}

func TestRule4WhatIsHandedInStaysAsItIs(t *testing.T) {
	b, all := roomy(rising(40), rising(60)...)
	before := slices.Clone(all)
	mustBytes(t, 1, 1, b)
	Bytes(0, 1, b)
	if !slices.Equal(all, before) {
		t.Errorf("a body was changed: %v", all)
	}
	records, _ := logOf(1, 1, rising(3), rising(4))
	b, all = roomy(records, recordOf(1, 3, rising(5))...)
	before = slices.Clone(all)
	for _, seq := range list(0, 1, 2) {
		Read(b, 1, seq)
		Scan(b, 1, seq)
		Read(b[:20], 1, seq)
		Scan(b[:20], 1, seq)
	}
	if !slices.Equal(all, before) {
		t.Errorf("records were changed: %v", all)
	}
}

func TestRule4WhatIsHandedInIsNotKept(t *testing.T) {
	body := rising(5)
	b := mustBytes(t, 1, 2, body)
	spoil(body, 99)
	if !slices.Equal(b, recordOf(1, 2, rising(5))) {
		t.Errorf("a record has become %s", short(b))
	}
	records, _ := logOf(1, 2, rising(5), nil, rising(6))
	one, _, _ := Read(records, 1, 2)
	bodies, _, _ := Scan(records, 1, 2)
	spoil(records, 99)
	if !slices.Equal(one, rising(5)) {
		t.Errorf("what was read has become %s", short(one))
	}
	if want := list(rising(5), nil, rising(6)); !slices.EqualFunc(bodies, want, slices.Equal) {
		t.Errorf("what was scanned has become %v", bodies)
	}
}

func TestRule4WhatIsHandedOutIsNew(t *testing.T) {
	body, allBody := roomy(rising(5), rising(30)...)
	beforeBody := slices.Clone(allBody)
	b := mustBytes(t, 1, 2, body)
	spoil(append(b, 9), 9)
	spoil(b, 9)
	if !slices.Equal(allBody, beforeBody) {
		t.Errorf("a body has become %v", allBody)
	}
	checkBytes(t, 1, 2, body, recordOf(1, 2, rising(5)), api.OK)

	records, ends := logOf(1, 2, rising(5), nil, rising(6), rising(7))
	all := list(rising(5), nil, rising(6), rising(7))
	given, allGiven := roomy(records, rising(30)...)
	before := slices.Clone(allGiven)
	one, _, _ := Read(given, 1, 2)
	spoil(append(one, 9), 9)
	spoil(one, 9)
	bodies, _, _ := Scan(given, 1, 2)
	for i := range bodies { // each is changed by itself, spare room too: no other one changes
		spoil(append(bodies[i], 9), 9)
		spoil(bodies[i], 9)
		if i+1 < len(bodies) && !slices.Equal(bodies[i+1], all[i+1]) {
			t.Errorf("the body %d has become %v", i+1, bodies[i+1])
		}
	}
	spoil(append(bodies, nil), nil)
	if !slices.Equal(allGiven, before) {
		t.Errorf("records have become %v", allGiven)
	}
	checkRead(t, given, 1, 2, answer{body: rising(5), size: 19})
	checkScan(t, given, 1, 2, whole(all, ends, 4))
}

func TestRule4NoTwoBodiesShareMemory(t *testing.T) {
	records, _ := logOf(1, 2, rising(5), rising(6), rising(7), nil, rising(8))
	for changed := range 5 {
		bodies, _, _ := Scan(records, 1, 2)
		want, _, _ := Scan(records, 1, 2)
		spoil(bodies[changed], 99)
		for i := range bodies {
			if i != changed && !slices.Equal(bodies[i], want[i]) {
				t.Errorf("with the body %d the body %d has become %v", changed, i, bodies[i])
			}
		}
	}
}

func TestRule8WhatLiesBehindALengthIsNotRead(t *testing.T) {
	long := rising(6000)
	checkBytes(t, 1, 2, long[:5], recordOf(1, 2, rising(5)), api.OK)
	records, ends := logOf(1, 2, rising(5), rising(6))
	for n := range len(records) {
		checkRead(t, records[:n], 1, 2, readOf(slices.Clone(records[:n]), 1, 2))
		checkScan(t, records[:n], 1, 2, whole(list(rising(5), rising(6)), ends, wholeBefore(ends, n)))
	}
}

func TestRule5TheSameAnswerEachTime(t *testing.T) {
	records, ends := logOf(3, 4, rising(5), rising(6))
	for range 3 {
		checkBytes(t, 3, 4, rising(5), records[:ends[0]], api.OK)
		checkRead(t, records, 3, 4, answer{body: rising(5), size: 19})
		checkScan(t, records, 3, 4, whole(list(rising(5), rising(6)), ends, 2))
	}
}
