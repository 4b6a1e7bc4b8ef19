package params

import (
	"math"
	"slices"
	"strconv"
	"strings"
	"testing"
)

// maxParams and maxParam are the document's limits.
const (
	maxParams = 16
	maxParam  = 9999
)

// number is the digits' number, or 9999, if that is less; no digits are 0.
func number(digits string) int {
	digits = strings.TrimLeft(digits, "0")
	if len(digits) > 4 {
		return maxParam
	}
	n := 0
	for _, c := range digits {
		n = n*10 + strings.IndexRune("0123456789", c)
	}
	return n
}

// reads is the list of a whole text, worked out at once and not byte by byte.
func reads(s string) [][]int {
	var kept []byte
	for _, c := range []byte(s) {
		if strings.IndexByte("0123456789:;", c) >= 0 {
			kept = append(kept, c)
		}
	}
	if len(kept) == 0 {
		return nil
	}
	var list [][]int
	for i, param := range strings.Split(string(kept), ";") {
		if i == maxParams {
			break
		}
		var parts []int
		for j, part := range strings.Split(param, ":") {
			if j < MaxParts {
				parts = append(parts, number(part))
			}
		}
		list = append(list, parts)
	}
	return list
}

// spelt is a list in digits, with ; between the parameters and : between their parts.
func spelt(list [][]int) string {
	var params []string
	for _, parts := range list {
		var words []string
		for _, n := range parts {
			words = append(words, strconv.Itoa(n))
		}
		params = append(params, strings.Join(words, ":"))
	}
	return strings.Join(params, ";")
}

func same(a, b [][]int) bool { return slices.EqualFunc(a, b, slices.Equal[[]int]) }

func send(p *List, s string) {
	for i := range len(s) {
		p.Byte(s[i])
	}
}

// has wants of a list, twice in a row, what All answers.
func has(t *testing.T, p *List, behind string, want [][]int) {
	t.Helper()
	for range 2 {
		if got := p.All(); !same(got, want) {
			t.Errorf("All behind %q: %v, not %v", behind, got, want)
		}
	}
}

// tells wants what a list that is zero has behind a text.
func tells(t *testing.T, s string, want ...[]int) {
	t.Helper()
	var p List
	send(&p, s)
	has(t, &p, s, want)
}

// follow holds a list that is zero behind each byte of a text against what is read at once.
func follow(t *testing.T, s string) {
	t.Helper()
	var p List
	has(t, &p, "", nil)
	for i := range len(s) {
		p.Byte(s[i])
		has(t, &p, s[:i+1], reads(s[:i+1]))
	}
}

// chance answers numbers below n, always the same ones.
func chance(seed uint32) func(n int) int {
	return func(n int) int {
		seed = seed*1664525 + 1013904223
		return int(seed>>16) % n
	}
}

// zeros is n parameters of one part, 0.
func zeros(n int) [][]int {
	var list [][]int
	for range n {
		list = append(list, []int{0})
	}
	return list
}

// The chapter's examples, and the third of the document.
func TestExamples(t *testing.T) {
	tells(t, "")
	tells(t, "5", []int{5})
	tells(t, "38;5;200", []int{38}, []int{5}, []int{200})
	tells(t, "4:3;1", []int{4, 3}, []int{1})
	tells(t, ";;", []int{0}, []int{0}, []int{0})
	tells(t, "99999", []int{9999})
	tells(t, "1;31", []int{1}, []int{31})
	for _, x := range []struct {
		list          [][]int
		i, none, want int
	}{
		{[][]int{{0}, {7}}, 0, 1, 1},
		{[][]int{{0}, {7}}, 1, 1, 7},
		{nil, 0, 1, 1},
	} {
		if got := One(x.list, x.i, x.none); got != x.want {
			t.Errorf("One(%v, %d, %d): %d, not %d", x.list, x.i, x.none, got, x.want)
		}
	}
}

// P7.1: how many parts a parameter has at most.
func TestMaxParts(t *testing.T) {
	if MaxParts != 8 {
		t.Error(MaxParts)
	}
}

// P7.1: each byte alone, behind a parameter, and between two.
func TestEachByte(t *testing.T) {
	for i := range 256 {
		c := string([]byte{byte(i)})
		switch {
		case i >= 0x30 && i <= 0x39:
			tells(t, c, []int{i - 0x30})
			tells(t, "12"+c+";4", []int{120 + i - 0x30}, []int{4})
			tells(t, "1;"+c+"5", []int{1}, []int{10*(i-0x30) + 5})
		case i == 0x3a:
			tells(t, c, []int{0, 0})
			tells(t, "12"+c+";4", []int{12, 0}, []int{4})
			tells(t, "1;"+c+"5", []int{1}, []int{0, 5})
		case i == 0x3b:
			tells(t, c, []int{0}, []int{0})
			tells(t, "12"+c+";4", []int{12}, []int{0}, []int{4})
			tells(t, "1;"+c+"5", []int{1}, []int{0}, []int{5})
		default:
			tells(t, c)
			tells(t, "12"+c+";4", []int{12}, []int{4})
			tells(t, "1;"+c+"5", []int{1}, []int{5})
		}
		follow(t, c+c)
		follow(t, "1;2"+c+"3:4"+c+"5;")
	}
}

// P7.1: bytes that are none of 30 to 3b, many of them, do nothing: ahead of all, in a number, behind : and ;, at the end, and where no more is made.
func TestOtherBytes(t *testing.T) {
	var others []byte
	for i := range 256 {
		if i < 0x30 || i > 0x3b {
			others = append(others, byte(i))
		}
	}
	o := string(others)
	if len(o) != 244 {
		t.Error(len(o), "other bytes")
	}
	tells(t, o)
	tells(t, o+o)
	tells(t, o+"1", []int{1})
	tells(t, o+";", []int{0}, []int{0})
	tells(t, o+":", []int{0, 0})
	tells(t, "1"+o+"2"+o+";"+o+"3:"+o+"4"+o, []int{12}, []int{3, 4})
	tells(t, "9999"+o+"9", []int{9999})
	tells(t, strings.Repeat(":", 8)+o+"7;"+o+"7", make([]int, 8), []int{7})
	tells(t, strings.Repeat(";", 16)+o+"7"+o, zeros(16)...)
}

// P7.1: numbers at the bound and past it, as a first part, a later one, and a later parameter's.
func TestNumbers(t *testing.T) {
	for s, n := range map[string]int{
		"0": 0, "1": 1, "9": 9, "10": 10, "99": 99, "100": 100, "999": 999, "1000": 1000, "1234": 1234, "9990": 9990, "9997": 9997, "9998": 9998, "9999": 9999,
		"10000": 9999, "10001": 9999, "12345": 9999, "99990": 9999, "99999": 9999, "100000": 9999, "65536": 9999, "4294967296": 9999, "4294967297": 9999,
		"18446744073709551616": 9999, "18446744073709551617": 9999, "9223372036854775808": 9999, "9998000000": 9999, "99990000000000000000000000": 9999,
		"00": 0, "000000000000000000000000": 0, "01": 1, "0009": 9, "00000009998": 9998, "00000000000009999": 9999, "000000000000010000": 9999, "0100": 100,
	} {
		tells(t, s, []int{n})
		tells(t, s+";", []int{n}, []int{0})
		tells(t, s+":"+s, []int{n, n})
		tells(t, "3:"+s+":4;"+s+";5", []int{3, n, 4}, []int{n}, []int{5})
		follow(t, s+":"+s+";"+s)
	}
	for n := range 20001 {
		tells(t, strconv.Itoa(n), []int{min(n, 9999)})
	}
	for _, many := range []int{5, 10, 19, 20, 64, 1000, 100000} {
		for _, digit := range "123456789" {
			tells(t, strings.Repeat(string(digit), many), []int{9999})
		}
		tells(t, "1"+strings.Repeat("0", many), []int{9999})
		tells(t, strings.Repeat("0", many), []int{0})
		tells(t, strings.Repeat("0", many)+"42", []int{42})
	}
}

// P7.1: : and ; without digits, the very first ones too.
func TestWithoutDigits(t *testing.T) {
	tells(t, ":", []int{0, 0})
	tells(t, ";", []int{0}, []int{0})
	tells(t, "::", []int{0, 0, 0})
	tells(t, ":;", []int{0, 0}, []int{0})
	tells(t, ";:", []int{0}, []int{0, 0})
	tells(t, ":5", []int{0, 5})
	tells(t, ";5", []int{0}, []int{5})
	tells(t, "5:", []int{5, 0})
	tells(t, "5;", []int{5}, []int{0})
	tells(t, "38:2::1:2:3", []int{38, 2, 0, 1, 2, 3})
	tells(t, "1;;3", []int{1}, []int{0}, []int{3})
}

// P7.1: as many parameters as may be, and more: what comes behind a ; too many does nothing for good.
func TestManyParams(t *testing.T) {
	for n := range 20 {
		tells(t, strings.Repeat(";", n)+"7", append(zeros(min(n, 16)), [][]int{{7}}[:max(0, min(1, 16-n))]...)...)
	}
	full, want := "1", [][]int{{1}}
	for n := 2; n <= 16; n++ {
		full += ";" + strconv.Itoa(n)
		want = append(want, []int{n})
		tells(t, full, want...)
	}
	tells(t, full+"0", append(want[:15:15], []int{160})...)
	tells(t, full+":5", append(want[:15:15], []int{16, 5})...)
	for _, more := range []string{";", ";5", ";:", ";;", ";:5", ";;5", ";5:6;7", ";0000", ";99999", ";:;5:;;::6", strings.Repeat(";5:6", 100), strings.Repeat(";", 1000) + "5"} {
		tells(t, full+more, want...)
		tells(t, full+":5"+more, append(want[:15:15], []int{16, 5})...)
		tells(t, full+"::::::::5"+more, append(want[:15:15], []int{16, 0, 0, 0, 0, 0, 0, 0})...)
		follow(t, full+more)
	}
}

// P7.1: as many parts as may be, and more: what comes behind a : too many does nothing up to the next ; alone.
func TestManyParts(t *testing.T) {
	full, want := "1", []int{1}
	for n := 2; n <= 8; n++ {
		full += ":" + strconv.Itoa(n)
		want = append(want, n)
		tells(t, full, want)
	}
	tells(t, full+"0", append(want[:7:7], 80))
	for _, more := range []string{":", ":5", "::", "::5", ":5:6", ":0000", ":99999", strings.Repeat(":5", 100), strings.Repeat(":", 1000) + "5"} {
		tells(t, full+more, want)
		tells(t, full+more+";", want, []int{0})
		tells(t, full+more+";9", want, []int{9})
		tells(t, full+more+";9:8", want, []int{9, 8})
		tells(t, full+more+";"+full+more+";"+full, want, want, want)
		tells(t, full+more+";;3", want, []int{0}, []int{3})
		tells(t, "3;"+full+more, []int{3}, want)
		follow(t, "3;"+full+more+";4"+more+";5")
	}
	var all [][]int
	for n := range 16 {
		all = append(all, want)
		s := strings.Repeat(full+":9;", n) + full + ":9"
		tells(t, s, all...)
		follow(t, s+";")
	}
	tells(t, strings.Repeat(full+":9;", 17)+full, all...)
}

// P7.1: a list that is zero has none, however it is made, and All changes nothing.
func TestZero(t *testing.T) {
	var plain List
	for _, p := range []*List{&plain, {}, new(List)} {
		has(t, p, "", nil)
		p.Clear()
		has(t, p, "Clear", nil)
		send(p, "4:3;1")
		has(t, p, "4:3;1", [][]int{{4, 3}, {1}})
		send(p, "2;")
		has(t, p, "4:3;12;", [][]int{{4, 3}, {12}, {0}})
	}
}

// P7.1, R1: of a nil list there are none, and nothing comes of its bytes.
func TestNil(t *testing.T) {
	var p *List
	has(t, p, "", nil)
	for i := range 256 {
		p.Byte(byte(i))
	}
	has(t, p, "all bytes", nil)
	p.Clear()
	has(t, p, "Clear", nil)
}

// P7.1: behind Clear there are none, whatever was; what comes then is as in a list that is zero.
func TestClear(t *testing.T) {
	texts := []string{"", "5", ":", ";", "1;2;3", "1:2:3", "99999", "x", strings.Repeat(";", 15), strings.Repeat(";", 16), strings.Repeat("8;", 16) + "9:9", strings.Repeat(":", 7), strings.Repeat("7:", 9) + "7", strings.Repeat(strings.Repeat("6:", 9)+"6;", 20)}
	for _, first := range texts {
		for _, then := range texts {
			var p List
			send(&p, first)
			p.Clear()
			has(t, &p, first+", Clear", nil)
			send(&p, then)
			has(t, &p, first+", Clear, "+then, reads(then))
			p.Clear()
			p.Clear()
			has(t, &p, "Clear, Clear", nil)
			send(&p, "4:3;1")
			has(t, &p, "Clear, Clear, 4:3;1", [][]int{{4, 3}, {1}})
		}
	}
}

// P7.2: each parameter of a list, those about its ends, and numbers that none is counted by.
func TestOne(t *testing.T) {
	list := [][]int{{0}, {7}, {4, 3}, {0, 5}, {}, nil, {9999, 0}, {1}, {-2}}
	for _, none := range []int{0, 1, 7, -1, 80, math.MaxInt, math.MinInt} {
		for i, want := range []int{none, 7, 4, none, none, none, 9999, 1, -2} {
			if got := One(list, i, none); got != want {
				t.Errorf("One(%v, %d, %d): %d, not %d", list, i, none, got, want)
			}
		}
		for _, i := range []int{-1, -2, -9, len(list), len(list) + 1, 16, 17, math.MinInt, math.MinInt32, math.MaxInt32, math.MaxInt, 1 << 32} {
			if got := One(list, i, none); got != none {
				t.Errorf("One(%v, %d, %d): %d", list, i, none, got)
			}
		}
		for _, empty := range [][][]int{nil, {}} {
			for _, i := range []int{-1, 0, 1, math.MinInt, math.MaxInt} {
				if got := One(empty, i, none); got != none {
					t.Errorf("One(none, %d, %d): %d", i, none, got)
				}
			}
		}
	}
	if !same(list, [][]int{{0}, {7}, {4, 3}, {0, 5}, {}, {}, {9999, 0}, {1}, {-2}}) {
		t.Error("One changed the list:", list)
	}
}

// P7.2: what lies in the spare room behind a list, or a parameter's parts, is none of it.
func TestOneSpareRoom(t *testing.T) {
	list := [][]int{{7}, {6}, {5}}
	if got := One(list[:1], 1, 1); got != 1 {
		t.Error("One past the list:", got)
	}
	list[1] = list[1][:0]
	if got := One(list, 1, 1); got != 1 {
		t.Error("One of an empty parameter:", got)
	}
}

// P7.1, P7.2: One of what All answers.
func TestOneOfAll(t *testing.T) {
	var p List
	send(&p, ";38:5:200;0;99999;007")
	for i, want := range []int{11, 38, 11, 9999, 7, 11, 11} {
		if got := One(p.All(), i, 11); got != want {
			t.Errorf("One of all, %d: %d, not %d", i, got, want)
		}
	}
	var zero List
	if got := One(zero.All(), 0, 3); got != 3 {
		t.Error("One of none:", got)
	}
}

// P7.3: each count of parameters and of parts that there may be, in digits.
func TestAllSizes(t *testing.T) {
	values := []int{0, 1, 9, 10, 255, 1049, 9998, 9999}
	for n := 1; n <= maxParams; n++ {
		for size := 1; size <= MaxParts; size++ {
			var list [][]int
			for i := range n {
				var parts []int
				for j := range size {
					parts = append(parts, values[(3*i+5*j+n)%len(values)])
				}
				list = append(list, parts)
			}
			tells(t, spelt(list), list...)
			follow(t, spelt(list))
		}
	}
}

// P7.3: lists by chance, each parameter with parts of its own count.
func TestSpelt(t *testing.T) {
	for seed := range uint32(3000) {
		pick := chance(seed)
		list := make([][]int, 1+pick(maxParams))
		for i := range list {
			list[i] = make([]int, 1+pick(MaxParts))
			for j := range list[i] {
				list[i][j] = pick([]int{2, 10, 300, maxParam + 1}[pick(4)])
			}
		}
		tells(t, spelt(list), list...)
	}
}

// P7.1: all texts of up to five bytes of few kinds, byte by byte.
func TestAllShortTexts(t *testing.T) {
	const kinds = "09:;x"
	texts := []string{""}
	for len(texts) > 0 {
		s := texts[len(texts)-1]
		texts = texts[:len(texts)-1]
		follow(t, s)
		if len(s) < 5 {
			for _, c := range kinds {
				texts = append(texts, s+string(c))
			}
		}
	}
}

// P7.1: rows of bytes by chance, with Clear between, held against what is read at once.
func TestRows(t *testing.T) {
	for seed := range uint32(400) {
		pick := chance(seed)
		kinds := []string{"0123456789:;", "1:", "12;", "9:;", "5::::;", "0123456789:;\x00\x1b m/<\x80\xff"}[pick(6)]
		var p List
		come := ""
		for range 300 {
			if pick(150) == 0 {
				p.Clear()
				come = ""
			} else {
				c := kinds[pick(len(kinds))]
				p.Byte(c)
				come += string([]byte{c})
			}
			has(t, &p, come, reads(come))
		}
	}
}

// spoil writes over a parameter's parts, their spare room too.
func spoil(parts []int) {
	parts = parts[:cap(parts)]
	for i := range parts {
		parts[i] = -1
	}
}

// R4: what is answered is new memory: written over, it changes neither the list nor another answer; nor does what comes later change it.
func TestNewMemory(t *testing.T) {
	for _, s := range []string{"", "5", "4:3;1", "1:2:3:4:5:6:7:8;9;;", strings.Repeat("3:4;", 16), strings.Repeat("1:", 20)} {
		var p List
		send(&p, s)
		first, second := p.All(), p.All()
		for i := range first {
			spoil(first[i])
		}
		clear(first[:cap(first)])
		if !same(second, reads(s)) {
			t.Errorf("an answer behind %q changed: %v", s, second)
		}
		has(t, &p, s, reads(s))
		send(&p, "12:34;56")
		p.Clear()
		send(&p, "78;9:9")
		if !same(second, reads(s)) {
			t.Errorf("what was answered behind %q changed: %v", s, second)
		}
		has(t, &p, "78;9:9", [][]int{{78}, {9, 9}})
	}
}

// R4: no two parameters of one answer share memory.
func TestNoSharedParts(t *testing.T) {
	for _, s := range []string{"4:3;1", "1:2:3:4:5:6:7:8;9;;", strings.Repeat("3:4;", 16)} {
		var p List
		send(&p, s)
		for i := range reads(s) {
			list, want := p.All(), reads(s)
			spoil(list[i])
			list[i], want[i] = nil, nil
			if !same(list, want) {
				t.Errorf("behind %q, parameter %d written over: %v", s, i, list)
			}
		}
	}
}

// R3: lists know nothing of one another, and neither does a list's copy.
func TestApart(t *testing.T) {
	var a, b, none List
	for i := range len("1;2:3;;4") {
		a.Byte("1;2:3;;4"[i])
		b.Byte("9:8;7;6:"[i])
	}
	has(t, &a, "1;2:3;;4", [][]int{{1}, {2, 3}, {0}, {4}})
	has(t, &b, "9:8;7;6:", [][]int{{9, 8}, {7}, {6, 0}})
	has(t, &none, "", nil)
	c := a
	send(&c, "5;6")
	send(&a, ":7")
	b.Clear()
	has(t, &c, "the copy, 5;6", [][]int{{1}, {2, 3}, {0}, {45}, {6}})
	has(t, &a, "1;2:3;;4:7", [][]int{{1}, {2, 3}, {0}, {4, 7}})
	has(t, &b, "Clear", nil)
	c.Clear()
	has(t, &a, "1;2:3;;4:7", [][]int{{1}, {2, 3}, {0}, {4, 7}})
}
