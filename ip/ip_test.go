package ip

import (
	"math/big"
	"net/netip"
	"regexp"
	"strconv"
	"strings"
	"testing"

	"lantern/api"
)

// v6 is the IPv6 of groups.
func v6(g ...uint16) api.Addr {
	a := api.Addr{V6: true}
	for i, v := range g {
		a.B[2*i], a.B[2*i+1] = byte(v>>8), byte(v)
	}
	return a
}

// fromLibrary is an address that the library has read.
func fromLibrary(n netip.Addr) api.Addr {
	if n.Is4() {
		b := n.As4()
		return V4(b[0], b[1], b[2], b[3])
	}
	return api.Addr{V6: true, B: n.As16()}
}

// toLibrary is an address that may be, as the library has it.
func toLibrary(a api.Addr) netip.Addr {
	if a.V6 {
		return netip.AddrFrom16(a.B)
	}
	return netip.AddrFrom4([4]byte(a.B[12:]))
}

// strictly reads a text as the library does, and, beyond it, eight groups and a colon twice.
func strictly(s string) (api.Addr, bool) {
	if n, err := netip.ParseAddr(s); err == nil {
		return fromLibrary(n), n.Zone() == ""
	}
	left, right, gap := strings.Cut(s, "::")
	if !gap || strings.Contains(left, ".") {
		return api.Addr{}, false
	}
	whole := left + right
	if left != "" && right != "" {
		whole = left + ":" + right
	}
	n, err := netip.ParseAddr(whole)
	if err != nil || !n.Is6() || n.Zone() != "" || strings.Contains(whole, "::") {
		return api.Addr{}, false
	}
	return fromLibrary(n), true
}

const loosePart = `(?:0[xX][0-9a-fA-F]*|0[0-7]*|[1-9][0-9]*)`

var loosePattern = regexp.MustCompile(`\A` + loosePart + `(?:\.` + loosePart + `){0,3}\.?\z`)

// loosely reads a text by a pattern and numbers of any size.
func loosely(s string) (api.Addr, bool) {
	if !loosePattern.MatchString(s) {
		return api.Addr{}, false
	}
	parts := strings.Split(strings.TrimSuffix(s, "."), ".")
	all := new(big.Int)
	for i, p := range parts {
		n, base := new(big.Int), 10
		switch {
		case len(p) > 1 && (p[1] == 'x' || p[1] == 'X'):
			p, base = "0"+p[2:], 16
		case p[0] == '0':
			base = 8
		}
		n.SetString(p, base)
		bits := uint(8)
		if i == len(parts)-1 {
			bits = uint(8 * (5 - len(parts)))
		}
		if n.BitLen() > int(bits) {
			return api.Addr{}, false
		}
		all.Lsh(all, bits).Or(all, n)
	}
	v := uint32(all.Uint64())
	return V4(byte(v>>24), byte(v>>16), byte(v>>8), byte(v)), true
}

// reads tells of a text that is not read as it must be; ok false: it must be refused.
func reads(t *testing.T, name string, read func(string) (api.Addr, api.Errno), s string, want api.Addr, ok bool) {
	t.Helper()
	a, e := read(s)
	if ok && (e != api.OK || a != want) {
		t.Errorf("%s(%q) = %v, error %d, want %v", name, s, a, e, want)
	}
	if !ok && (e != api.ErrText || a != api.Addr{}) {
		t.Errorf("%s(%q) = %v, error %d, want no address, error %d", name, s, a, e, api.ErrText)
	}
}

func parses(t *testing.T, s string, want api.Addr) {
	t.Helper()
	reads(t, "Parse", Parse, s, want, true)
}

func parsesNot(t *testing.T, s string) {
	t.Helper()
	reads(t, "Parse", Parse, s, api.Addr{}, false)
}

func looses(t *testing.T, s string, want api.Addr) {
	t.Helper()
	reads(t, "Loose", Loose, s, want, true)
}

func loosesNot(t *testing.T, s string) {
	t.Helper()
	reads(t, "Loose", Loose, s, api.Addr{}, false)
}

// prints tells of an address that is not written so.
func prints(t *testing.T, a api.Addr, want string) {
	t.Helper()
	if s, e := Print(a); e != api.OK || s != want {
		t.Errorf("Print(%v) = %q, error %d, want %q", a, s, e, want)
	}
}

// patterns are addresses of IPv6, for each choice of groups that are 0, with other groups of several kinds.
func patterns() []api.Addr {
	var all []api.Addr
	for mask := range 1 << 8 {
		for _, other := range [][8]uint16{
			{1, 1, 1, 1, 1, 1, 1, 1},
			{0xffff, 0xffff, 0xffff, 0xffff, 0xffff, 0xffff, 0xffff, 0xffff},
			{0x10, 0x100, 0x1000, 0xa, 0xab, 0xabc, 0xabcd, 0x0b0c},
		} {
			for i := range other {
				if mask>>i&1 == 1 {
					other[i] = 0
				}
			}
			all = append(all, v6(other[:]...))
		}
	}
	return all
}

// some are addresses that may be: of IPv6 patterns, single bits and many others, of IPv4 single bits and edges.
func some() []api.Addr {
	all := patterns()
	for bit := range 128 {
		a := api.Addr{V6: true}
		a.B[bit/8] = 0x80 >> (bit % 8)
		all = append(all, a)
	}
	for bit := range 32 {
		v := uint32(1) << bit
		all = append(all, V4(byte(v>>24), byte(v>>16), byte(v>>8), byte(v)))
	}
	for _, b := range [][4]byte{{}, {1, 2, 3, 4}, {255, 255, 255, 255}, {127, 0, 0, 1}, {0, 0, 0, 1}, {10, 100, 9, 99}} {
		a := V4(b[0], b[1], b[2], b[3])
		head := api.Addr{V6: true, B: a.B}
		all = append(all, a, head)
		for _, g := range [][6]uint16{{5: 0xffff}, {0x64, 0xff9b}, {0x2002}, {4: 0xffff}, {4: 0xffff, 5: 0xffff}, {0x2001, 0xdb8}} {
			x := v6(g[:]...)
			copy(x.B[12:], a.B[12:])
			all = append(all, x)
		}
	}
	x := uint64(1)
	for range 2000 {
		a := api.Addr{V6: true}
		for i := range a.B {
			x = x*6364136223846793005 + 1442695040888963407
			a.B[i] = byte(x>>56) & byte(x>>48)
		}
		all = append(all, a)
	}
	return all
}

func TestIp1Check(t *testing.T) {
	for _, a := range some() {
		if e := Check(a); e != api.OK {
			t.Errorf("Check(%v): error %d", a, e)
		}
	}
	for bit := range 96 {
		a := V4(1, 2, 3, 4)
		a.B[bit/8] = 1 << (bit % 8)
		if e := Check(a); e != api.ErrArg {
			t.Errorf("Check(%v): error %d, want %d", a, e, api.ErrArg)
		}
		a.V6 = true
		if e := Check(a); e != api.OK {
			t.Errorf("Check(%v): error %d", a, e)
		}
	}
	if e := Check(api.Addr{}); e != api.OK {
		t.Errorf("Check of 0.0.0.0: error %d", e)
	}
}

func TestIp1V4(t *testing.T) {
	want := api.Addr{B: [16]byte{0, 0, 0, 0, 0, 0, 0, 0, 0, 0, 0, 0, 1, 2, 3, 4}}
	if a := V4(1, 2, 3, 4); a != want {
		t.Errorf("V4(1, 2, 3, 4) = %v", a)
	}
	if a := V4(0, 0, 0, 0); a != (api.Addr{}) {
		t.Errorf("V4(0, 0, 0, 0) = %v", a)
	}
	want = api.Addr{B: [16]byte{12: 255, 254, 253, 252}}
	if a := V4(255, 254, 253, 252); a != want {
		t.Errorf("V4(255, 254, 253, 252) = %v", a)
	}
}

func TestIp1ParseV4(t *testing.T) {
	parses(t, "1.2.3.4", V4(1, 2, 3, 4))
	parses(t, "0.0.0.0", V4(0, 0, 0, 0))
	parses(t, "255.255.255.255", V4(255, 255, 255, 255))
	parses(t, "10.20.30.40", V4(10, 20, 30, 40))
	parses(t, "100.200.101.209", V4(100, 200, 101, 209))
	for _, s := range []string{
		"", ".", "..", "...", "....", "0", "1", "256", "1.2", "1.2.3", "1.2.3.4.5", "1.2.3.4.5.6", "16909060",
		"1.2.3.", ".1.2.3", "1.2.3.4.", ".1.2.3.4", "1..3.4", "1.2..4", "1...4", "1.2.3..4", ".2.3.4",
		"01.2.3.4", "1.02.3.4", "1.2.03.4", "1.2.3.04", "00.0.0.0", "0.0.0.00", "1.2.3.000", "1.2.3.0001",
		"256.2.3.4", "1.256.3.4", "1.2.256.4", "1.2.3.256", "1.2.3.1000", "999.9.9.9", "1.2.3.4294967297", "1.2.3.18446744073709551617",
		"0x1.2.3.4", "1.2.3.0x4", "1.2.3.0X4", "a.b.c.d", "1.2.3.f", "1.2.3.4f",
		"1.2.3.+4", "1.2.3.-4", "-1.2.3.4", "+1.2.3.4", "1.2.3.4 ", " 1.2.3.4", "1. 2.3.4", "1.2.3.4\n", "1.2.3.4\x00", "1.2.3.1_0", "1,2,3,4",
		"1.2.3.4%eth0", "1.2.3.4%", "1.2.3.4/32", "1.2.3.4:80", "[1.2.3.4]", "1.2.3.٤", "1。2。3。4", "１.2.3.4", "1.2.3.\xff", "localhost",
	} {
		parsesNot(t, s)
	}
}

// TestIp1ParseV4EveryNumber has each number to 300 at each place, with noughts ahead and without.
func TestIp1ParseV4EveryNumber(t *testing.T) {
	for place := range 4 {
		for n := range 301 {
			for _, ahead := range []string{"", "0", "00"} {
				parts := []string{"7", "7", "7", "7"}
				parts[place] = ahead + strconv.Itoa(n)
				want := V4(7, 7, 7, 7)
				want.B[12+place] = byte(n)
				reads(t, "Parse", Parse, strings.Join(parts, "."), want, n < 256 && ahead == "")
			}
		}
	}
}

func TestIp1ParseV6(t *testing.T) {
	all := v6(1, 2, 3, 4, 5, 6, 7, 8)
	tail := v6(1, 2, 3, 4, 5, 6, 0x0708, 0x090a)
	for s, want := range map[string]api.Addr{
		"ABCD:EF01:2345:6789:ABCD:EF01:2345:6789": v6(0xabcd, 0xef01, 0x2345, 0x6789, 0xabcd, 0xef01, 0x2345, 0x6789),
		"abcd:ef01:2345:6789:AbCd:eF01:2345:6789": v6(0xabcd, 0xef01, 0x2345, 0x6789, 0xabcd, 0xef01, 0x2345, 0x6789),
		"2001:DB8:0:0:8:800:200C:417A":            v6(0x2001, 0xdb8, 0, 0, 8, 0x800, 0x200c, 0x417a),
		"2001:DB8::8:800:200C:417A":               v6(0x2001, 0xdb8, 0, 0, 8, 0x800, 0x200c, 0x417a),
		"FF01::101":                               v6(0xff01, 0, 0, 0, 0, 0, 0, 0x101),
		"::1":                                     v6(0, 0, 0, 0, 0, 0, 0, 1),
		"1::":                                     v6(1),
		"::":                                      v6(),
		"0:0:0:0:0:0:0:0":                         v6(),
		"0000:0000:0000:0000:0000:0000:0000:0000": v6(),
		"ffff:ffff:ffff:ffff:ffff:ffff:ffff:ffff": v6(0xffff, 0xffff, 0xffff, 0xffff, 0xffff, 0xffff, 0xffff, 0xffff),
		"0001:02:003:4:05:006:0007:8":             all,
		"1:2:3:4:5:6:7:8":                         all,
		// A colon twice in place of one group, and of none.
		"1:2:3::5:6:7:8":    v6(1, 2, 3, 0, 5, 6, 7, 8),
		"::2:3:4:5:6:7:8":   v6(0, 2, 3, 4, 5, 6, 7, 8),
		"1:2:3:4:5:6:7::":   v6(1, 2, 3, 4, 5, 6, 7, 0),
		"1:2:3:4::5:6:7:8":  all,
		"1::2:3:4:5:6:7:8":  all,
		"1:2:3:4:5:6:7::8":  all,
		"::1:2:3:4:5:6:7:8": all,
		"1:2:3:4:5:6:7:8::": all,
		// An IPv4 as the last two groups.
		"1:2:3:4:5:6:7.8.9.10":                  tail,
		"1:2:3::5:6:7.8.9.10":                   v6(1, 2, 3, 0, 5, 6, 0x0708, 0x090a),
		"1:2:3:4:5::7.8.9.10":                   v6(1, 2, 3, 4, 5, 0, 0x0708, 0x090a),
		"1:2:3:4:5:6::7.8.9.10":                 tail,
		"::1:2:3:4:5:6:7.8.9.10":                tail,
		"1::2:3:4:5:6:7.8.9.10":                 tail,
		"::7.8.9.10":                            v6(0, 0, 0, 0, 0, 0, 0x0708, 0x090a),
		"::ffff:7.8.9.10":                       v6(0, 0, 0, 0, 0, 0xffff, 0x0708, 0x090a),
		"0:0:0:0:0:FFFF:129.144.52.38":          v6(0, 0, 0, 0, 0, 0xffff, 0x8190, 0x3426),
		"::255.255.255.255":                     v6(0, 0, 0, 0, 0, 0, 0xffff, 0xffff),
		"1::0.0.0.0":                            v6(1),
		"2001:db8:122:344::192.0.2.33":          v6(0x2001, 0xdb8, 0x122, 0x344, 0, 0, 0xc000, 0x0221),
		"64:ff9b::192.0.2.33":                   v6(0x64, 0xff9b, 0, 0, 0, 0, 0xc000, 0x0221),
		"fe80::0204:61ff:254.157.241.86":        v6(0xfe80, 0, 0, 0, 0x204, 0x61ff, 0xfe9d, 0xf156),
		"abcd:ef01:2345:6789:abcd:ef01:1.2.3.4": v6(0xabcd, 0xef01, 0x2345, 0x6789, 0xabcd, 0xef01, 0x0102, 0x0304),
	} {
		parses(t, s, want)
	}
}

func TestIp1ParseV6Wrong(t *testing.T) {
	for _, s := range []string{
		":", ":::", "::::", ":::::", "1", "f", "ffff", "1:", ":1", "1:2", "1:2:3:4:5:6:7",
		"1:2:3:4:5:6:7:8:9", "1:2:3:4:5:6:7:8:9:a", "1:2:3:4::5:6:7:8:9", "::1:2:3:4:5:6:7:8:9", "1:2:3:4:5:6:7:8:9::", "1:2:3:4:5:6:7:8::9",
		// A group of no digits.
		":1:2:3:4:5:6:7", "1:2:3:4:5:6:7:", ":1:2:3:4:5:6:7:8", "1:2:3:4:5:6:7:8:", ":2:3:4:5:6:7:8", ":1::2", "1::2:", ":::1", "1:::", "1:::2", "1::::2", ":1:::", "::1:",
		// A group of five digits.
		"12345::", "::12345", "00001::", "1:2:3:4:5:6:7:00008", "00001:2:3:4:5:6:7:8", "1:2:3:10000:5:6:7:8", "::fffff", "::123456789", "::10000000000000001",
		// A colon twice more than once.
		"1::2::3", "::1::", "::1::2", "1::2::", "1::2::3::4", "1:2::3:4::5:6:7:8", "::::1", "1::::", "::1:2:3::4:5:6:7:8",
		// An IPv4 elsewhere, and another count of groups ahead of it.
		"1.2.3.4::", "1.2.3.4:5:6:7:8:9:a", "1.2.3.4::5", "1:1.2.3.4::", "1:1.2.3.4:2::", "::1.2.3.4:5", "::1.2.3.4:1.2.3.4", "1.2.3.4::1.2.3.4", "1:2:3:4:5:1.2.3.4:8", "::1.2.3.4::", "1:2:3:4:5:6:1.2.3.4::",
		"1:2:3:4:5:1.2.3.4", "1:2:3:4:5:6:7:1.2.3.4", "1:2:3:4:5:6:7:8:1.2.3.4", "1:2:3:4:5:6:7::1.2.3.4", "::1:2:3:4:5:6:7:1.2.3.4", "1:1.2.3.4", ":1.2.3.4", "1.2.3.4:", "1.2.3.4:5",
		// An IPv4 that is not written strictly.
		"::1.2.3", "::1.2.3.4.5", "::1.2.3.256", "::01.2.3.4", "::1.2.3.04", "::1.2.3.", "::.1.2.3", "::1.2.3.4.", "::1..3.4", "::0x1.2.3.4", "::1.2.3.f", "::.", "::1.2", "::ffff:16909060.", "1:2:3:4:5:6:1.2.3.400",
		// Zones, and what else may stand about an address.
		"fe80::1%eth0", "fe80::1%1", "fe80::1%", "fe80::%25eth0", "::1%eth0", "::%", "%::", "::ffff:1.2.3.4%eth0", "1:2:3:4:5:6:7:8%a", "::1/128", "[::1]", "[::1]:80", "[::]", "::1]",
		"g::", "::g", "::0x1", "::+1", "::-1", "::1 ", " ::1", ": :1", "::1\n", "::1\x00", "::1_0", "::\xff", "::é", "::１", "：：", "1-2-3-4-5-6-7-8", "@::", "`::", "G::", "/::", "::@", "::`", "::/", "::G",
	} {
		parsesNot(t, s)
	}
}

// TestIp1ParseV6Counts has each count of groups to ten, on either side of a colon twice and without one, an IPv4 at the end and none.
func TestIp1ParseV6Counts(t *testing.T) {
	groupsAre := strings.Fields("1 2 3 4 5 6 7 8 9 a")
	for left := range 11 {
		whole := strings.Join(groupsAre[:left], ":")
		for _, tail := range []string{"", ":1.2.3.4", "1.2.3.4"} {
			held(t, whole+tail)
		}
		for right := range 11 {
			both := whole + "::" + strings.Join(groupsAre[:right], ":")
			for _, tail := range []string{"", ":1.2.3.4", "1.2.3.4", ":", "::"} {
				held(t, both+tail)
			}
		}
	}
}

// held tells of a text that Parse does not read as the other reading does.
func held(t *testing.T, s string) {
	t.Helper()
	want, ok := strictly(s)
	reads(t, "Parse", Parse, s, want, ok)
}

// TestIp1ParseShort has every text of up to seven of the signs that count.
func TestIp1ParseShort(t *testing.T) {
	const signs = "01:.fg"
	last := []string{""}
	for range 7 {
		var next []string
		for _, s := range last {
			held(t, s)
			for i := range len(signs) {
				next = append(next, s+signs[i:i+1])
			}
		}
		last = next
	}
	for _, s := range last {
		held(t, s)
	}
}

// changed is a text with each byte left out, doubled, replaced, and with each sign between.
func changed(s, signs string) []string {
	var all []string
	for i := range len(s) + 1 {
		for j := range len(signs) {
			all = append(all, s[:i]+signs[j:j+1]+s[i:])
			if i < len(s) {
				all = append(all, s[:i]+signs[j:j+1]+s[i+1:])
			}
		}
		if i < len(s) {
			all = append(all, s[:i]+s[i+1:], s[:i+1]+s[i:])
		}
	}
	return all
}

func TestIp1ParseChanged(t *testing.T) {
	for _, s := range []string{
		"1.2.3.4", "255.255.255.255", "10.0.200.25", "::", "::1", "1::", "fe80::1", "1:2:3:4:5:6:7:8", "1:2:3:4::5:6:7:8", "1:2:3::6:7:8",
		"::ffff:1.2.3.4", "1:2:3:4:5:6:1.2.3.4", "1:2:3:4:5::1.2.3.4", "::1:2:3:4:5:6:7:8", "1:2:3:4:5:6:7:8::", "abcd:EF01:2345:6789:abcd:EF01:2345:6789",
	} {
		for _, once := range changed(s, "\x00 %+-./0123456789:;@AFGX[]`afgx{\x80\xff") {
			held(t, once)
			for _, twice := range changed(once, ":.0f") {
				held(t, twice)
			}
		}
	}
}

func TestIp1Loose(t *testing.T) {
	for s, want := range map[string]api.Addr{
		"0x7f.1":              V4(127, 0, 0, 1),
		"017700000001":        V4(127, 0, 0, 1),
		"2130706433":          V4(127, 0, 0, 1),
		"0x7f000001":          V4(127, 0, 0, 1),
		"127.1":               V4(127, 0, 0, 1),
		"127.0.1":             V4(127, 0, 0, 1),
		"127.0.0.1":           V4(127, 0, 0, 1),
		"127.0.0.1.":          V4(127, 0, 0, 1),
		"0177.0.0.01":         V4(127, 0, 0, 1),
		"0X7F.0.0x1.":         V4(127, 0, 0, 1),
		"0":                   V4(0, 0, 0, 0),
		"0.":                  V4(0, 0, 0, 0),
		"00":                  V4(0, 0, 0, 0),
		"0x":                  V4(0, 0, 0, 0),
		"0X":                  V4(0, 0, 0, 0),
		"0x.":                 V4(0, 0, 0, 0),
		"0x.0X.0x.0X":         V4(0, 0, 0, 0),
		"1.0x.3.4":            V4(1, 0, 3, 4),
		"0x.1":                V4(0, 0, 0, 1),
		"1.2.3.4":             V4(1, 2, 3, 4),
		"1.2.3":               V4(1, 2, 0, 3),
		"1.2":                 V4(1, 0, 0, 2),
		"1":                   V4(0, 0, 0, 1),
		"1.2.772":             V4(1, 2, 3, 4),
		"1.131844":            V4(1, 2, 3, 4),
		"16909060":            V4(1, 2, 3, 4),
		"0x1020304":           V4(1, 2, 3, 4),
		"0100401404":          V4(1, 2, 3, 4),
		"010.010.8.8":         V4(8, 8, 8, 8),
		"0xaB.0XCd.0xEf.0xfF": V4(0xab, 0xcd, 0xef, 0xff),
		// The greatest last parts, in each base.
		"255.255.255.255":         V4(255, 255, 255, 255),
		"255.255.65535":           V4(255, 255, 255, 255),
		"255.16777215":            V4(255, 255, 255, 255),
		"4294967295":              V4(255, 255, 255, 255),
		"0377.0377.0377.0377":     V4(255, 255, 255, 255),
		"0377.0377.0177777":       V4(255, 255, 255, 255),
		"0377.077777777":          V4(255, 255, 255, 255),
		"037777777777":            V4(255, 255, 255, 255),
		"0xff.0xff.0xff.0xff":     V4(255, 255, 255, 255),
		"0xff.0xff.0xffff":        V4(255, 255, 255, 255),
		"0xff.0xffffff":           V4(255, 255, 255, 255),
		"0xffffffff":              V4(255, 255, 255, 255),
		"0x0000000000000000001.2": V4(1, 0, 0, 2),
		"00000000000000000000001": V4(0, 0, 0, 1),
		"1.2.3." + strings.Repeat("0", 5000) + "4":   V4(1, 2, 3, 4),
		"1.2.3.0x" + strings.Repeat("0", 5000) + "4": V4(1, 2, 3, 4),
	} {
		looses(t, s, want)
	}
}

func TestIp1LooseWrong(t *testing.T) {
	for _, s := range []string{
		"", ".", "..", "...", "....", "1..", "..1", ".1", "1..2", "1.2..3", "1.2.3..4", ".1.2.3.4", "1.2.3.4..", "1.2.3..", "0x..",
		"1.2.3.4.5", "1.2.3.4.5.", "1.2.3.4.0", "0.0.0.0.0", "1.2.3.4.x", "1.2.3.4.5.6",
		// One more than the greatest.
		"256.2.3.4", "1.256.3.4", "1.2.256.4", "1.2.3.256", "256.2.3", "1.256.3", "1.2.65536", "256.2", "1.16777216", "4294967296",
		"0400.2.3.4", "1.2.3.0400", "1.2.0200000", "1.0100000000", "040000000000",
		"0x100.2.3.4", "1.2.3.0x100", "1.2.0x10000", "1.0x1000000", "0x100000000",
		"18446744073709551615", "18446744073709551616", "18446744073709551617", "0x10000000000000001", "02000000000000000000001", "1.2.3.18446744073709551617", "340282366920938463463374607431768211457",
		// No digits of their base.
		"08", "09", "018", "1.2.3.08", "0x1g", "0xg", "0xx", "00x1", "x", "x1", "0b1", "0o7", "a", "f", "1a", "1.2.3.a", "0x 1", "0x-1", "0x+1", "0x1x",
		"+1", "-1", "1_0", " 1", "1 ", "1\n", "1\x00", "1.2.3.4\n", "1,2", "1e3", "1.2.3.4%eth0", "1%", "1/8", "1:80", "[1]", "::1", "::ffff:1.2.3.4", "::", "0x::", "١", "１", "1。2", "\xff", "1\xff", "localhost",
	} {
		loosesNot(t, s)
	}
}

// heldLoosely tells of a text that Loose does not read as the other reading does.
func heldLoosely(t *testing.T, s string) {
	t.Helper()
	want, ok := loosely(s)
	reads(t, "Loose", Loose, s, want, ok)
}

// TestIp1LooseParts has every choice of one to three parts out of many, and of four and five out of some.
func TestIp1LooseParts(t *testing.T) {
	many := append(strings.Fields(`0 00 1 7 8 08 9 010 0x 0X 0x0 0xa 0XF 0xg x 255 256 0377 0400 0xff 0x100 0x00ff
		65535 65536 0177777 0200000 0xffff 0x10000 16777215 16777216 077777777 0100000000 0xffffff 0x1000000
		4294967295 4294967296 037777777777 040000000000 0xffffffff 0x100000000 18446744073709551616 0x10000000000000000`), "")
	few := append(strings.Fields("0 255 256 0377 0400 0xfF 0X100 0x 08 65535"), "")
	last := []string{""}
	for n := range 5 {
		from := many
		if n >= 3 {
			from = few
		}
		if n == 3 {
			last = joined(joined(joined([]string{""}, few), few), few)
		}
		last = joined(last, from)
		for _, s := range last {
			heldLoosely(t, s[1:])
			heldLoosely(t, s[1:]+".")
		}
	}
}

// joined is each text with each part behind it, and a dot between.
func joined(texts, parts []string) []string {
	all := make([]string, 0, len(texts)*len(parts))
	for _, s := range texts {
		for _, p := range parts {
			all = append(all, s+"."+p)
		}
	}
	return all
}

func TestIp1LooseChanged(t *testing.T) {
	for _, s := range []string{"1.2.3.4", "0x7f.1", "017700000001", "2130706433", "255.255.65535.", "0377.0XfF.0x.0"} {
		for _, once := range changed(s, "\x00 %+-./0123456789:;@AFGX[]`_afgx{\x80\xff") {
			heldLoosely(t, once)
			for _, twice := range changed(once, ".07x") {
				heldLoosely(t, twice)
			}
		}
	}
}

func TestIp1Print(t *testing.T) {
	prints(t, V4(1, 2, 3, 4), "1.2.3.4")
	prints(t, V4(0, 0, 0, 0), "0.0.0.0")
	prints(t, V4(255, 255, 255, 255), "255.255.255.255")
	prints(t, V4(10, 9, 100, 0), "10.9.100.0")
	// RFC 5952's own.
	prints(t, v6(0x2001, 0xdb8, 0, 0, 0, 0, 0, 1), "2001:db8::1")
	prints(t, v6(0x2001, 0xdb8, 0, 0, 0, 0, 2, 1), "2001:db8::2:1")
	prints(t, v6(0x2001, 0xdb8, 0, 1, 1, 1, 1, 1), "2001:db8:0:1:1:1:1:1")
	prints(t, v6(0x2001, 0, 0, 1, 0, 0, 0, 1), "2001:0:0:1::1")
	prints(t, v6(0x2001, 0xdb8, 0, 0, 1, 0, 0, 1), "2001:db8::1:0:0:1")
	prints(t, v6(0x2001, 0xdb8, 0xaaaa, 0xbbbb, 0xcccc, 0xdddd, 0xeeee, 0xaaaa), "2001:db8:aaaa:bbbb:cccc:dddd:eeee:aaaa")
	// Runs: of all, at the ends, of one, equal ones.
	prints(t, v6(), "::")
	prints(t, v6(0, 0, 0, 0, 0, 0, 0, 1), "::1")
	prints(t, v6(1), "1::")
	prints(t, v6(1, 2, 3, 4, 5, 6, 0, 0), "1:2:3:4:5:6::")
	prints(t, v6(0, 0, 3, 4, 5, 6, 7, 8), "::3:4:5:6:7:8")
	prints(t, v6(0, 2, 3, 4, 5, 6, 7, 8), "0:2:3:4:5:6:7:8")
	prints(t, v6(1, 2, 3, 4, 5, 6, 7, 0), "1:2:3:4:5:6:7:0")
	prints(t, v6(1, 0, 3, 0, 5, 0, 7, 0), "1:0:3:0:5:0:7:0")
	prints(t, v6(0, 2, 0, 0, 5, 6, 0, 8), "0:2::5:6:0:8")
	prints(t, v6(1, 0, 0, 4, 0, 0, 7, 8), "1::4:0:0:7:8")
	prints(t, v6(0, 0, 0, 4, 5, 0, 0, 0), "::4:5:0:0:0")
	prints(t, v6(0, 0, 3, 0, 0, 0, 7, 8), "0:0:3::7:8")
	prints(t, v6(0, 0, 3, 4, 0, 0, 0, 0), "0:0:3:4::")
	prints(t, v6(0x00ab, 0x0c0d, 0x000e, 0xf000, 0x0f00, 0x00f0, 0x0001, 0xABCD), "ab:c0d:e:f000:f00:f0:1:abcd")
	// Mapped ones, and those that nearly are.
	prints(t, v6(0, 0, 0, 0, 0, 0xffff, 0x0102, 0x0304), "::ffff:1.2.3.4")
	prints(t, v6(0, 0, 0, 0, 0, 0xffff, 0, 0), "::ffff:0.0.0.0")
	prints(t, v6(0, 0, 0, 0, 0, 0xffff, 0xffff, 0xffff), "::ffff:255.255.255.255")
	prints(t, v6(0, 0, 0, 0, 0, 0xfffe, 0x0102, 0x0304), "::fffe:102:304")
	prints(t, v6(0, 0, 0, 0, 0xffff, 0, 0x0102, 0x0304), "::ffff:0:102:304")
	prints(t, v6(0, 0, 0, 0, 1, 0xffff, 0x0102, 0x0304), "::1:ffff:102:304")
	prints(t, v6(1, 0, 0, 0, 0, 0xffff, 0x0102, 0x0304), "1::ffff:102:304")
	prints(t, v6(0, 0, 0, 0, 0, 0, 0x0102, 0x0304), "::102:304")
	prints(t, v6(0x64, 0xff9b, 0, 0, 0, 0, 0x0102, 0x0304), "64:ff9b::102:304")
}

func TestIp1PrintAgainstLibrary(t *testing.T) {
	for _, a := range some() {
		prints(t, a, toLibrary(a).String())
	}
}

func TestIp1PrintWrong(t *testing.T) {
	for bit := range 96 {
		a := V4(1, 2, 3, 4)
		a.B[bit/8] = 1 << (bit % 8)
		if s, e := Print(a); e != api.ErrArg || s != "" {
			t.Errorf("Print(%v) = %q, error %d, want nothing, error %d", a, s, e, api.ErrArg)
		}
	}
	a := api.Addr{B: v6(0, 0, 0, 0, 0, 0xffff, 0x0102, 0x0304).B}
	if s, e := Print(a); e != api.ErrArg || s != "" {
		t.Errorf("Print of a mapped address that is said to be IPv4 = %q, error %d", s, e)
	}
}

func TestIp2Unmap(t *testing.T) {
	for _, b := range [][4]byte{{}, {0, 0, 0, 1}, {1, 2, 3, 4}, {127, 0, 0, 1}, {255, 255, 255, 255}} {
		want := V4(b[0], b[1], b[2], b[3])
		a := api.Addr{V6: true, B: want.B}
		a.B[10], a.B[11] = 0xff, 0xff
		if got := Unmap(a); got != want {
			t.Errorf("Unmap(%v) = %v, want %v", a, got, want)
		}
		for bit := range 96 {
			x := a
			x.B[bit/8] ^= 1 << (bit % 8)
			if got := Unmap(x); got != x {
				t.Errorf("Unmap(%v) = %v, want the same", x, got)
			}
		}
		a.V6 = false // it may not be, and is no IPv6
		for _, x := range []api.Addr{want, a} {
			if got := Unmap(x); got != x {
				t.Errorf("Unmap(%v) = %v, want the same", x, got)
			}
		}
	}
	for _, a := range some() {
		if got, want := Unmap(a), fromLibrary(toLibrary(a).Unmap()); got != want {
			t.Errorf("Unmap(%v) = %v, want %v", a, got, want)
		}
	}
}

// carries tells of an address of which Embeds does not tell this IPv4.
func carries(t *testing.T, a, want api.Addr) {
	t.Helper()
	if got, ok := Embeds(a); !ok || got != want {
		t.Errorf("Embeds(%v) = %v, %v, want %v", a, got, ok, want)
	}
}

func carriesNone(t *testing.T, a api.Addr) {
	t.Helper()
	if got, ok := Embeds(a); ok || got != (api.Addr{}) {
		t.Errorf("Embeds(%v) = %v, %v, want none", a, got, ok)
	}
}

func TestIp2Embeds(t *testing.T) {
	for s, want := range map[string]api.Addr{
		"::ffff:1.2.3.4":             V4(1, 2, 3, 4),
		"::ffff:0.0.0.0":             V4(0, 0, 0, 0),
		"::ffff:0.0.0.1":             V4(0, 0, 0, 1),
		"::ffff:255.255.255.255":     V4(255, 255, 255, 255),
		"::1.2.3.4":                  V4(1, 2, 3, 4),
		"::2":                        V4(0, 0, 0, 2),
		"::3":                        V4(0, 0, 0, 3),
		"::100":                      V4(0, 0, 1, 0),
		"::101":                      V4(0, 0, 1, 1),
		"::1:0":                      V4(0, 1, 0, 0),
		"::1:1":                      V4(0, 1, 0, 1),
		"::100:0":                    V4(1, 0, 0, 0),
		"::100:1":                    V4(1, 0, 0, 1),
		"::ffff:ffff":                V4(255, 255, 255, 255),
		"::127.0.0.1":                V4(127, 0, 0, 1),
		"2002:7f00:1::":              V4(127, 0, 0, 1),
		"2002:0102:0304::":           V4(1, 2, 3, 4),
		"2002::":                     V4(0, 0, 0, 0),
		"2002:0:1::":                 V4(0, 0, 0, 1),
		"2002::1":                    V4(0, 0, 0, 0),
		"2002:c0a8:101:1:2:3:4:5":    V4(192, 168, 1, 1),
		"2002:102:304::5.6.7.8":      V4(1, 2, 3, 4),
		"2002:102:304::ffff:1.1.1.1": V4(1, 2, 3, 4),
		"2002:ffff:ffff:ffff:ffff:ffff:ffff:ffff": V4(255, 255, 255, 255),
		"64:ff9b::1.2.3.4":                        V4(1, 2, 3, 4),
		"64:ff9b::":                               V4(0, 0, 0, 0),
		"64:ff9b::1":                              V4(0, 0, 0, 1),
		"64:ff9b::255.255.255.255":                V4(255, 255, 255, 255),
		"64:ff9b::7f00:1":                         V4(127, 0, 0, 1),
	} {
		a, e := Parse(s)
		if e != api.OK {
			t.Fatalf("Parse(%q): error %d", s, e)
		}
		carries(t, a, want)
	}
}

func TestIp2EmbedsNone(t *testing.T) {
	for _, s := range []string{
		"::", "::1", "1::", "2001:db8::1.2.3.4", "fe80::1", "fe80::1.2.3.4", "ff02::1", "2001:0:102:304::", "2003::1.2.3.4", "3002:102:304::", "2202:102:304::", "2012:102:304::", "2003:102:304::",
		"64:ff9b:1::1.2.3.4", "64:ff9b:0:0:0:1:102:304", "64:ff9b::1:0:0:1.2.3.4", "64:ff9c::1.2.3.4", "65:ff9b::1.2.3.4", "164:ff9b::1.2.3.4", "::64:ff9b:1.2.3.4",
		"::fffe:1.2.3.4", "::1:0:1.2.3.4", "::1:ffff:1.2.3.4", "1::ffff:1.2.3.4", "::ffff:0:1.2.3.4", "::fffe:0:0", "::1:0:0", "::1:0:2", "1::2",
		"fe80::200:5efe:1.2.3.4", "2001:0:1:2:3:4:5:6",
		"1.2.3.4", "0.0.0.0", "0.0.0.2", "127.0.0.1", "255.255.255.255",
	} {
		a, e := Parse(s)
		if e != api.OK {
			t.Fatalf("Parse(%q): error %d", s, e)
		}
		carriesNone(t, a)
	}
	// Of IPv4, and of what may not be, whatever its bytes are.
	for _, g := range [][8]uint16{
		{5: 0xffff, 6: 0x0102, 7: 0x0304}, {6: 0x0102, 7: 0x0304}, {0x2002, 0x0102, 0x0304}, {0x64, 0xff9b, 0, 0, 0, 0, 0x0102, 0x0304},
	} {
		a := v6(g[:]...)
		if _, ok := Embeds(a); !ok {
			t.Errorf("Embeds(%v): none", a)
		}
		a.V6 = false
		carriesNone(t, a)
	}
}

// TestIp2EmbedsEveryBit turns each bit of a head: no head is then another kind's, so nothing is carried.
func TestIp2EmbedsEveryBit(t *testing.T) {
	want := V4(9, 8, 7, 6)
	for _, g := range [][6]uint16{{5: 0xffff}, {}, {0x64, 0xff9b}} {
		a := v6(g[:]...)
		copy(a.B[12:], want.B[12:])
		carries(t, a, want)
		for bit := range 96 {
			x := a
			x.B[bit/8] ^= 1 << (bit % 8)
			carriesNone(t, x)
		}
	}
	a := v6(0x2002, 0x0908, 0x0706, 1, 2, 3, 4, 5)
	carries(t, a, want)
	for bit := range 128 {
		x := a
		x.B[bit/8] ^= 1 << (bit % 8)
		if bit < 16 {
			carriesNone(t, x)
			continue
		}
		carries(t, x, V4(x.B[2], x.B[3], x.B[4], x.B[5]))
	}
}

func TestIp3ParseOfPrint(t *testing.T) {
	for _, a := range some() {
		s, e := Print(a)
		if e != api.OK {
			t.Errorf("Print(%v): error %d", a, e)
			continue
		}
		parses(t, s, a)
	}
}

// TestIp3LooseAsStrict has each byte at each place, and every pair of edges: what Parse reads Loose reads alike.
func TestIp3LooseAsStrict(t *testing.T) {
	alike := func(a api.Addr) {
		t.Helper()
		s, _ := Print(a)
		parses(t, s, a)
		looses(t, s, a)
		looses(t, s+".", a)
	}
	for n := range 256 {
		b := byte(n)
		alike(V4(b, 1, 2, 3))
		alike(V4(1, b, 2, 3))
		alike(V4(1, 2, b, 3))
		alike(V4(1, 2, 3, b))
		alike(V4(b, b, b, b))
	}
	edges := []byte{0, 1, 7, 8, 9, 10, 99, 100, 127, 128, 254, 255}
	for _, a := range edges {
		for _, b := range edges {
			for _, c := range edges {
				for _, d := range edges {
					alike(V4(a, b, c, d))
				}
			}
		}
	}
}

// TestR1LongTexts has texts far longer than an address: they are refused, or read where noughts ahead may stand.
func TestR1LongTexts(t *testing.T) {
	const many = 1 << 20
	for _, s := range []string{"0", "1", "9", "f", ":", ".", "::", "1:", "1.", "0.", ":.", "\x00", "\xff", "é"} {
		long := strings.Repeat(s, many)
		parsesNot(t, long)
		parsesNot(t, "::"+long)
		parsesNot(t, long+"::")
		parsesNot(t, "1.2.3."+long)
		if s != "0" {
			loosesNot(t, long)
			loosesNot(t, "1."+long)
			loosesNot(t, "0x"+long+".x")
		}
	}
	looses(t, strings.Repeat("0", many), V4(0, 0, 0, 0))
	looses(t, "1.0x"+strings.Repeat("0", many)+"2", V4(1, 0, 0, 2))
}
