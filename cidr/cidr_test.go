package cidr

import (
	"fmt"
	"math"
	"math/big"
	"regexp"
	"slices"
	"strconv"
	"strings"
	"testing"

	"lantern/api"
	"lantern/ip"
)

// addr is an address, written strictly.
func addr(t *testing.T, s string) api.Addr {
	t.Helper()
	a, e := ip.Parse(s)
	if e != api.OK {
		t.Fatalf("%q is no address", s)
	}
	return a
}

// net is a net of an address and bits, whether it may be or not.
func net(t *testing.T, s string) api.Net {
	t.Helper()
	address, digits, _ := strings.Cut(s, "/")
	bits, err := strconv.Atoi(digits)
	if err != nil {
		t.Fatalf("%q is no net", s)
	}
	return api.Net{Addr: addr(t, address), Bits: bits}
}

// wrongAddrs are addresses that may not be: each of IPv4 with a byte that is none of its own.
func wrongAddrs() []api.Addr {
	all := []api.Addr{}
	for i := range 12 {
		a := ip.V4(8, 8, 8, 8)
		a.B[i] = 1 << (i % 8)
		all = append(all, a)
	}
	return all
}

// wrongNets are nets that may not be.
func wrongNets(t *testing.T) []api.Net {
	all := []api.Net{
		net(t, "0.0.0.0/-1"), net(t, "0.0.0.0/33"), net(t, "0.0.0.0/128"), net(t, "0.0.0.0/129"),
		net(t, "::/-1"), net(t, "::/129"), net(t, "10.0.0.1/8"), net(t, "0.0.0.1/31"), net(t, "128.0.0.0/0"),
		net(t, "2001:db8::1/127"), net(t, "8000::/0"), net(t, "fe80::/8"),
		{Bits: math.MaxInt}, {Bits: math.MinInt},
		{Addr: api.Addr{V6: true}, Bits: math.MaxInt}, {Addr: api.Addr{V6: true}, Bits: math.MinInt},
	}
	for _, a := range wrongAddrs() {
		all = append(all, api.Net{Addr: a, Bits: 32})
		a.B[15], a.B[14], a.B[13], a.B[12] = 0, 0, 0, 0
		all = append(all, api.Net{Addr: a, Bits: 0})
	}
	return all
}

// digits is an address' own bits as a text of `0` and `1`, by which this file works out what nets have.
func digits(a api.Addr) string {
	b := strings.Builder{}
	own := a.B[12:]
	if a.V6 {
		own = a.B[:]
	}
	for _, v := range own {
		fmt.Fprintf(&b, "%08b", v)
	}
	return b.String()
}

// mayBe tells whether a net may be, of an address that may.
func mayBe(n api.Net) bool {
	d := digits(n.Addr)
	return n.Bits >= 0 && n.Bits <= len(d) && !strings.Contains(d[n.Bits:], "1")
}

// has tells whether a net has an address, of ones that may be.
func has(n api.Net, a api.Addr) bool {
	return n.Addr.V6 == a.V6 && strings.HasPrefix(digits(a), digits(n.Addr)[:n.Bits])
}

// turned is an address with one of its own bits turned.
func turned(a api.Addr, bit int) api.Addr {
	if !a.V6 {
		bit += 96
	}
	a.B[bit/8] ^= 0x80 >> (bit % 8)
	return a
}

// cut is the net of an address' first bits.
func cut(a api.Addr, bits int) api.Net {
	d := digits(a)
	for i := bits; i < len(d); i++ {
		if d[i] == '1' {
			a = turned(a, i)
		}
	}
	return api.Net{Addr: a, Bits: bits}
}

// moved is the address that lies some steps further, of its own kind; false: there is none.
func moved(a api.Addr, step *big.Int) (api.Addr, bool) {
	own := a.B[12:]
	if a.V6 {
		own = a.B[:]
	}
	v := new(big.Int).SetBytes(own)
	v.Add(v, step)
	if v.Sign() < 0 || v.BitLen() > 8*len(own) {
		return api.Addr{}, false
	}
	v.FillBytes(own)
	return a, true
}

// last is a net's last address.
func last(n api.Net) api.Addr {
	size := new(big.Int).Lsh(big.NewInt(1), uint(len(digits(n.Addr))-n.Bits))
	a, _ := moved(n.Addr, size.Sub(size, big.NewInt(1)))
	return a
}

func checks(t *testing.T, n api.Net, ok bool) {
	t.Helper()
	want := api.OK
	if !ok {
		want = api.ErrArg
	}
	if e := Check(n); e != want {
		t.Errorf("Check(%v) = %d, want %d", n, e, want)
	}
}

func parses(t *testing.T, s string, want api.Net) {
	t.Helper()
	if n, e := Parse(s); e != api.OK || n != want {
		t.Errorf("Parse(%q) = %v, error %d, want %v", s, n, e, want)
	}
}

func parsesNot(t *testing.T, s string) {
	t.Helper()
	if n, e := Parse(s); e != api.ErrText || n != (api.Net{}) {
		t.Errorf("Parse(%.80q) = %v, error %d, want no net, error %d", s, n, e, api.ErrText)
	}
}

func allows(t *testing.T, s string, want api.Errno, deny ...api.Net) {
	t.Helper()
	if e := Allow(addr(t, s), deny); e != want {
		t.Errorf("Allow(%s, %v) = %d, want %d", s, deny, e, want)
	}
}

func TestCi1CheckBits(t *testing.T) {
	for _, c := range []struct {
		bits   int
		v4, v6 bool
	}{
		{math.MinInt, false, false}, {-1, false, false}, {0, true, true}, {1, true, true}, {31, true, true},
		{32, true, true}, {33, false, true}, {127, false, true}, {128, false, true}, {129, false, false},
		{256, false, false}, {math.MaxInt, false, false},
	} {
		checks(t, api.Net{Bits: c.bits}, c.v4)
		checks(t, api.Net{Addr: api.Addr{V6: true}, Bits: c.bits}, c.v6)
	}
}

// TestCi1CheckBehind: at all Bits, each single bit may be there just if it is one of the first.
func TestCi1CheckBehind(t *testing.T) {
	for _, a := range []api.Addr{{}, {V6: true}} {
		width := len(digits(a))
		for bits := 0; bits <= width; bits++ {
			for i := range width {
				checks(t, api.Net{Addr: turned(a, i), Bits: bits}, i < bits)
			}
			all := api.Net{Addr: a, Bits: bits}
			for i := range bits {
				all.Addr = turned(all.Addr, i)
			}
			checks(t, all, true)
		}
	}
}

func TestCi1CheckWrong(t *testing.T) {
	for _, n := range wrongNets(t) {
		checks(t, n, false)
	}
}

func TestCi1Parse(t *testing.T) {
	v6 := func(bits int, b ...byte) api.Net {
		n := api.Net{Addr: api.Addr{V6: true}, Bits: bits}
		copy(n.Addr.B[:], b)
		return n
	}
	parses(t, "0.0.0.0/0", api.Net{})
	parses(t, "10.0.0.0/8", api.Net{Addr: ip.V4(10, 0, 0, 0), Bits: 8})
	parses(t, "100.64.0.0/10", api.Net{Addr: ip.V4(100, 64, 0, 0), Bits: 10})
	parses(t, "255.255.255.255/32", api.Net{Addr: ip.V4(255, 255, 255, 255), Bits: 32})
	parses(t, "255.255.255.254/31", api.Net{Addr: ip.V4(255, 255, 255, 254), Bits: 31})
	parses(t, "::/0", v6(0))
	parses(t, "::/128", v6(128))
	parses(t, "::1/128", v6(128, 0, 0, 0, 0, 0, 0, 0, 0, 0, 0, 0, 0, 0, 0, 0, 1))
	parses(t, "fc00::/7", v6(7, 0xfc))
	parses(t, "2001:db8::/32", v6(32, 0x20, 0x01, 0x0d, 0xb8))
	// However strictly the address is written.
	parses(t, "2001:0DB8:0:0:0:0:0:0/33", v6(33, 0x20, 0x01, 0x0d, 0xb8))
	parses(t, "::ffff:10.0.0.0/104", v6(104, 0, 0, 0, 0, 0, 0, 0, 0, 0, 0, 0xff, 0xff, 10))
	parses(t, "1:0:0:0:0:0:0:0::/16", v6(16, 0, 1))
}

func TestCi1ParseWrong(t *testing.T) {
	for _, s := range []string{
		"", "/", "//", "8", "/8", "10.0.0.0", "10.0.0.0/", "10.0.0.0//8", "10.0.0.0/8/", "10.0.0.0/8/8", "/10.0.0.0/8",
		"10.0.0.0/08", "10.0.0.0/00", "0.0.0.0/00", "10.0.0.0/008", "10.0.0.0/+8", "0.0.0.0/-0", "0.0.0.0/+0", "0.0.0.0/-1",
		"10.0.0.0/ 8", "10.0.0.0/8 ", " 10.0.0.0/8", "10.0.0.0 /8", "10.0.0.0/8\n", "10.0.0.0/8\x00", "10.0.0.0/8.0",
		"10.0.0.0/0x8", "10.0.0.0/1_0", "10.0.0.0/8e0", "10.0.0.0/a", "10.0.0.0/\u0668", "10.0.0.0/255.0.0.0",
		"10.0.0.0/33", "10.0.0.0/128", "0.0.0.0/129", "0.0.0.0/320", "0.0.0.0/999", "::/129", "::/256", "::/-1", "::/1280",
		"10.0.0.0/4294967304", "10.0.0.0/18446744073709551624", "10.0.0.0/340282366920938463463374607431768211464",
		"10.0.0.1/8", "10.128.0.0/8", "10.0.0.0/6", "0.0.0.1/31", "128.0.0.0/0", "100.64.0.0/9",
		"2001:db8::1/127", "8000::/0", "fe80::/8", "2001:200::/22", "::ffff:10.0.0.1/127",
		"10.0.0/8", "10/8", "010.0.0.0/8", "0x7f.1/32", "256.0.0.0/8", "10.0.0.0./8", "fe80::%eth0/10", "[::1]/128", "::1::/128",
		"x/8", "10.0.0.0/x", "10.0.0.0\\8", "10.0.0.0\u22158", ":/0", ":::/0",
	} {
		parsesNot(t, s)
	}
}

var written = regexp.MustCompile(`\A([^/]*)/(0|[1-9][0-9]{0,2})\z`)

// reads reads a text by a pattern.
func reads(s string) (api.Net, bool) {
	parts := written.FindStringSubmatch(s)
	if parts == nil {
		return api.Net{}, false
	}
	a, e := ip.Parse(parts[1])
	bits, _ := strconv.Atoi(parts[2])
	n := api.Net{Addr: a, Bits: bits}
	return n, e == api.OK && mayBe(n)
}

// TestCi1ParseChanged: texts with one and two signs put in, left out or changed are read as the pattern reads them.
func TestCi1ParseChanged(t *testing.T) {
	read, refused := 0, 0
	try := func(s string) {
		if n, ok := reads(s); ok {
			read++
			parses(t, s, n)
		} else {
			refused++
			parsesNot(t, s)
		}
	}
	for _, s := range []string{"10.0.0.0/8", "0.0.0.0/0", "::/128", "fc00::/7", "::ffff:0:0/96"} {
		try(s)
		for _, once := range changes(s) {
			try(once)
			for _, twice := range changes(once) {
				try(twice)
			}
		}
	}
	if read < 1000 || refused < 1000 {
		t.Errorf("%d texts were read, %d refused", read, refused)
	}
}

// changes is a text with one sign put in, left out or changed.
func changes(s string) []string {
	all := []string{}
	for i := 0; i <= len(s); i++ {
		for _, sign := range []string{"0", "1", "2", "8", "f", ".", ":", "/", "-", "+", " "} {
			all = append(all, s[:i]+sign+s[i:])
			if i < len(s) {
				all = append(all, s[:i]+sign+s[i+1:])
			}
		}
		if i < len(s) {
			all = append(all, s[:i]+s[i+1:])
		}
	}
	return all
}

// TestCi1ParseBits: each number of bits, at addresses of which all nets may be, and numbers beyond.
func TestCi1ParseBits(t *testing.T) {
	for _, zero := range []string{"0.0.0.0", "::"} {
		a := addr(t, zero)
		for bits := -10; bits < 1100; bits++ {
			s := zero + "/" + strconv.Itoa(bits)
			if bits >= 0 && bits <= len(digits(a)) {
				parses(t, s, api.Net{Addr: a, Bits: bits})
			} else {
				parsesNot(t, s)
			}
		}
	}
}

func TestCi1Print(t *testing.T) {
	for _, s := range []string{
		"0.0.0.0/0", "10.0.0.0/8", "100.64.0.0/10", "255.255.255.255/32", "::/0", "::/128", "::1/128", "fc00::/7",
		"64:ff9b:1::/48", "2001:db8:0:1::/64", "::ffff:10.0.0.0/104", "::ffff:0.0.0.0/96", "::fffe:0:0/95", "1:0:0:2::/100",
	} {
		if p, e := Print(net(t, s)); p != s || e != api.OK {
			t.Errorf("Print of %s = %q, error %d", s, p, e)
		}
	}
	if p, e := Print(net(t, "2001:0DB8:0:0:0:0:0:0/32")); p != "2001:db8::/32" || e != api.OK {
		t.Errorf("Print does not write in short: %q, error %d", p, e)
	}
}

func TestCi1PrintWrong(t *testing.T) {
	for _, n := range wrongNets(t) {
		if s, e := Print(n); s != "" || e != api.ErrArg {
			t.Errorf("Print(%v) = %q, error %d, want error %d", n, s, e, api.ErrArg)
		}
	}
}

// TestCi1PrintParse: what is written is read again, at all Bits.
func TestCi1PrintParse(t *testing.T) {
	for _, s := range []string{"255.255.255.255", "170.85.0.1", "ffff:ffff:ffff:ffff:ffff:ffff:ffff:ffff", "2001:db8::a5a5:ffff:0:1", "::ffff:172.16.254.3"} {
		a := addr(t, s)
		for bits := range len(digits(a)) + 1 {
			n := cut(a, bits)
			p, e := Print(n)
			address, e2 := ip.Print(n.Addr)
			if e != api.OK || e2 != api.OK || p != address+"/"+strconv.Itoa(bits) {
				t.Errorf("Print(%v) = %q, error %d", n, p, e)
			}
			parses(t, p, n)
		}
	}
}

// TestCi1Has: at all Bits, an address that is unlike in a single bit is in the net just if that bit is none of the first.
func TestCi1Has(t *testing.T) {
	for _, s := range []string{"0.0.0.0", "255.255.255.255", "172.16.254.3", "::", "ffff:ffff:ffff:ffff:ffff:ffff:ffff:ffff", "2001:db8::a5a5:ffff:0:1"} {
		a := addr(t, s)
		width := len(digits(a))
		for bits := range width + 1 {
			n := cut(a, bits)
			if !Has(n, a) || !Has(n, n.Addr) || !Has(n, last(n)) {
				t.Errorf("%v hasn't its own addresses", n)
			}
			for i := range width {
				if got := Has(n, turned(a, i)); got != (i >= bits) {
					t.Errorf("%v has %v: %v", n, turned(a, i), got)
				}
			}
		}
	}
}

func TestCi1HasEdges(t *testing.T) {
	for _, c := range []struct {
		net, addr string
		want      bool
	}{
		{"10.0.0.0/8", "10.0.0.0", true}, {"10.0.0.0/8", "10.255.255.255", true}, {"10.0.0.0/8", "9.255.255.255", false},
		{"10.0.0.0/8", "11.0.0.0", false}, {"100.64.0.0/10", "100.63.255.255", false}, {"100.64.0.0/10", "100.64.0.0", true},
		{"100.64.0.0/10", "100.127.255.255", true}, {"100.64.0.0/10", "100.128.0.0", false},
		{"2001::/23", "2001:1ff:ffff:ffff:ffff:ffff:ffff:ffff", true}, {"2001::/23", "2001:200::", false},
		{"0.0.0.0/0", "255.255.255.255", true}, {"::/0", "ffff::", true}, {"1.2.3.4/32", "1.2.3.4", true}, {"1.2.3.4/32", "1.2.3.5", false},
		// Those of the other kind, which a net never has, be the bits alike.
		{"0.0.0.0/0", "::", false}, {"::/0", "0.0.0.0", false}, {"0.0.0.0/0", "::ffff:1.2.3.4", false}, {"0.0.0.0/0", "::1.2.3.4", false},
		{"::/96", "1.2.3.4", false}, {"::102:304/128", "1.2.3.4", false}, {"::ffff:0:0/96", "1.2.3.4", false}, {"::ffff:0:0/96", "::ffff:1.2.3.4", true},
		{"0.0.0.0/8", "::", false}, {"0.0.0.0/32", "::", false},
	} {
		if got := Has(net(t, c.net), addr(t, c.addr)); got != c.want {
			t.Errorf("Has(%s, %s) = %v", c.net, c.addr, got)
		}
	}
}

func TestCi1HasWrong(t *testing.T) {
	for _, n := range wrongNets(t) {
		for _, a := range []api.Addr{{}, {V6: true}, n.Addr, ip.V4(8, 8, 8, 8), ip.V4(10, 0, 0, 1)} {
			if Has(n, a) {
				t.Errorf("%v, which may not be, has %v", n, a)
			}
		}
	}
	for _, a := range wrongAddrs() {
		for _, n := range []api.Net{{}, {Addr: api.Addr{V6: true}}, {Addr: ip.V4(8, 8, 8, 8), Bits: 32}, {Addr: ip.V4(8, 0, 0, 0), Bits: 8}} {
			if Has(n, a) {
				t.Errorf("%v has %v, which may not be", n, a)
			}
		}
	}
}

func TestCi1Meet(t *testing.T) {
	for _, c := range []struct {
		a, b string
		want bool
	}{
		{"10.0.0.0/8", "10.0.0.0/8", true}, {"10.0.0.0/8", "10.1.0.0/16", true}, {"10.0.0.0/8", "10.255.255.255/32", true},
		{"10.0.0.0/8", "0.0.0.0/0", true}, {"10.0.0.0/8", "11.0.0.0/8", false}, {"10.0.0.0/8", "9.255.255.255/32", false},
		{"10.0.0.0/8", "11.0.0.0/32", false}, {"10.0.0.0/9", "10.128.0.0/9", false}, {"10.0.0.0/8", "10.0.0.0/9", true},
		{"224.0.0.0/4", "240.0.0.0/4", false}, {"224.0.0.0/3", "240.0.0.0/4", true}, {"1.2.3.4/32", "1.2.3.4/32", true}, {"1.2.3.4/32", "1.2.3.5/32", false},
		{"2001::/23", "2001:db8::/32", false}, {"2001::/16", "2001:db8::/32", true}, {"::/0", "::1/128", true}, {"::/127", "::2/127", false},
		{"0.0.0.0/0", "::/0", false}, {"0.0.0.0/8", "::/8", false}, {"1.2.3.4/32", "::102:304/128", false}, {"10.0.0.0/8", "::ffff:10.0.0.0/104", false},
	} {
		a, b := net(t, c.a), net(t, c.b)
		if Meet(a, b) != c.want || Meet(b, a) != c.want {
			t.Errorf("Meet of %s and %s: %v, the other way round %v", c.a, c.b, Meet(a, b), Meet(b, a))
		}
	}
}

func TestCi1MeetWrong(t *testing.T) {
	right := []api.Net{{}, {Addr: api.Addr{V6: true}}, {Addr: ip.V4(10, 0, 0, 0), Bits: 8}, {Addr: ip.V4(8, 8, 8, 8), Bits: 32}, {Addr: api.Addr{V6: true}, Bits: 128}}
	for _, n := range wrongNets(t) {
		for _, m := range append(right, wrongNets(t)...) {
			if Meet(n, m) || Meet(m, n) {
				t.Errorf("%v, which may not be, meets %v", n, m)
			}
		}
	}
}

// TestCi3Meet: all nets within sixteen addresses, over a byte's end and within bytes, meet just if some address is in both, and just if one has the other one's address and no more bits.
func TestCi3Meet(t *testing.T) {
	for _, s := range []string{"10.0.255.240/28", "10.0.0.0/28", "2001:db8::fff0/124"} {
		whole := net(t, s)
		addrs, nets := []api.Addr{}, []api.Net{}
		for i := range int64(16) {
			a, _ := moved(whole.Addr, big.NewInt(i))
			addrs = append(addrs, a)
			for bits := whole.Bits - 2; bits <= len(digits(a)); bits++ {
				nets = append(nets, cut(a, bits))
			}
		}
		for _, a := range nets {
			for _, b := range nets {
				shared := slices.ContainsFunc(addrs, func(x api.Addr) bool { return has(a, x) && has(b, x) })
				within := Has(a, b.Addr) && a.Bits <= b.Bits || Has(b, a.Addr) && b.Bits <= a.Bits
				if got := Meet(a, b); got != shared || got != within {
					t.Errorf("Meet(%v, %v) = %v, want %v", a, b, got, shared)
				}
			}
		}
	}
}

// forbiddenTexts are the chapter's forbidden nets, in its order.
const forbiddenTexts = "0.0.0.0/8 10.0.0.0/8 100.64.0.0/10 127.0.0.0/8 169.254.0.0/16 172.16.0.0/12 192.0.0.0/24 192.0.2.0/24 " +
	"192.88.99.0/24 192.168.0.0/16 198.18.0.0/15 198.51.100.0/24 203.0.113.0/24 224.0.0.0/4 240.0.0.0/4 " +
	"::/128 ::1/128 64:ff9b:1::/48 100::/64 2001::/23 2001:db8::/32 3fff::/20 5f00::/16 fc00::/7 fe80::/10 ff00::/8"

func forbidden(t *testing.T) []api.Net {
	t.Helper()
	all := []api.Net{}
	for _, s := range strings.Fields(forbiddenTexts) {
		all = append(all, net(t, s))
	}
	return all
}

func TestCi2Forbidden(t *testing.T) {
	want := forbidden(t)
	got := Forbidden()
	if !slices.Equal(got, want) {
		t.Errorf("Forbidden() = %v, want %v", got, want)
	}
	for i, n := range got {
		checks(t, n, true)
		if s, _ := Print(n); s != strings.Fields(forbiddenTexts)[i] {
			t.Errorf("net %d is written %q", i, s)
		}
	}
}

// TestR3Forbidden: what is answered is new each time, its spare room too.
func TestR3Forbidden(t *testing.T) {
	got := Forbidden()
	got = got[:cap(got)]
	for i := range got {
		got[i] = api.Net{Addr: ip.V4(8, 8, 8, 8), Bits: 32}
	}
	if !slices.Equal(Forbidden(), forbidden(t)) {
		t.Error("what is done to an answer is seen in the next one")
	}
	allows(t, "8.8.8.8", api.OK)
	allows(t, "10.0.0.1", api.ErrDenied)
}

func TestCi2Examples(t *testing.T) {
	allows(t, "::ffff:10.0.0.1", api.ErrDenied)
	allows(t, "2002:7f00:1::", api.ErrDenied)
	allows(t, "8.8.8.8", api.OK)
}

// forms are an IPv4, and the IPv6 that carry it.
func forms(v4 api.Addr) []api.Addr {
	behind := func(head ...byte) api.Addr {
		a := api.Addr{V6: true, B: v4.B}
		copy(a.B[:12], head)
		return a
	}
	sixToFour := api.Addr{V6: true, B: [16]byte{0x20, 0x02, 15: 9}}
	copy(sixToFour.B[2:6], v4.B[12:])
	return []api.Addr{
		v4,
		behind(0, 0, 0, 0, 0, 0, 0, 0, 0, 0, 0xff, 0xff),
		behind(),
		sixToFour,
		behind(0, 0x64, 0xff, 0x9b),
	}
}

// wanted is what Allow tells of an address that may be, by this file's own reckoning.
func wanted(t *testing.T, a api.Addr, deny []api.Net) api.Errno {
	t.Helper()
	nets := slices.Concat(forbidden(t), deny)
	a = ip.Unmap(a)
	all := []api.Addr{a}
	if v4, ok := ip.Embeds(a); ok {
		all = append(all, v4)
	}
	for _, n := range nets {
		for _, x := range all {
			if has(n, x) {
				return api.ErrDenied
			}
		}
	}
	return api.OK
}

// TestCi2AllowEdges: each forbidden net's first and last address is denied, in all forms, and the one just outside is told of as the other nets say.
func TestCi2AllowEdges(t *testing.T) {
	let := 0
	for _, n := range forbidden(t) {
		for _, a := range []api.Addr{n.Addr, last(n)} {
			in := []api.Addr{a}
			if !a.V6 {
				in = forms(a)
			}
			for _, x := range in {
				if e := Allow(x, nil); e != api.ErrDenied {
					t.Errorf("Allow(%v) of %v = %d", x, n, e)
				}
			}
		}
		for _, c := range []struct {
			from api.Addr
			step int64
		}{{n.Addr, -1}, {last(n), 1}} {
			out, ok := moved(c.from, big.NewInt(c.step))
			if !ok {
				continue
			}
			all := []api.Addr{out}
			if !out.V6 {
				all = forms(out)
			}
			for _, x := range all {
				want := wanted(t, x, nil)
				if want == api.OK {
					let++
				}
				if e := Allow(x, nil); e != want {
					t.Errorf("Allow(%v) just outside of %v = %d, want %d", x, n, e, want)
				}
			}
		}
	}
	if let < 100 {
		t.Errorf("only %d addresses just outside were let", let)
	}
}

func TestCi2AllowOutside(t *testing.T) {
	for _, s := range []string{
		"1.0.0.0", "9.255.255.255", "11.0.0.0", "100.63.255.255", "100.128.0.0", "126.255.255.255", "128.0.0.0", "169.253.255.255", "169.255.0.0",
		"172.15.255.255", "172.32.0.0", "191.255.255.255", "192.0.1.0", "192.0.1.255", "192.0.3.0", "192.88.98.255", "192.88.100.0",
		"192.167.255.255", "192.169.0.0", "198.17.255.255", "198.20.0.0", "198.51.99.255", "198.51.101.0", "203.0.112.255", "203.0.114.0", "223.255.255.255",
	} {
		for _, a := range forms(addr(t, s)) {
			if e := Allow(a, nil); e != api.OK {
				t.Errorf("Allow(%v), of %s, = %d", a, s, e)
			}
		}
	}
	for _, s := range []string{
		"64:ff9b:0:ffff:ffff:ffff:ffff:ffff", "64:ff9b:2::", "ff:ffff:ffff:ffff:ffff:ffff:ffff:ffff", "100:0:0:1::",
		"2000:ffff:ffff:ffff:ffff:ffff:ffff:ffff", "2001:200::", "2001:db7:ffff:ffff:ffff:ffff:ffff:ffff", "2001:db9::",
		"3ffe:ffff:ffff:ffff:ffff:ffff:ffff:ffff", "3fff:1000::", "5eff:ffff:ffff:ffff:ffff:ffff:ffff:ffff", "5f01::",
		"fbff:ffff:ffff:ffff:ffff:ffff:ffff:ffff", "fe00::", "fe7f:ffff:ffff:ffff:ffff:ffff:ffff:ffff", "fec0::", "feff:ffff:ffff:ffff:ffff:ffff:ffff:ffff",
		"2606:4700:4700::1111", "::fffe:a00:1", "::1:a00:1", "64:ff9b::1:7f00:1", "2003:7f00:1::",
	} {
		allows(t, s, api.OK)
	}
	for _, s := range []string{"::2", "::0.0.0.255", "::0.255.255.255", "::", "::1", "0.255.255.255", "255.255.255.255", "239.255.255.255", "240.0.0.0"} {
		allows(t, s, api.ErrDenied)
	}
}

func TestCi2AllowDeny(t *testing.T) {
	eight, v6, one := net(t, "8.8.0.0/16"), net(t, "2606:4700::/32"), net(t, "9.9.9.9/32")
	allows(t, "8.8.8.8", api.OK)
	allows(t, "8.8.8.8", api.ErrDenied, eight)
	allows(t, "8.9.0.0", api.OK, eight)
	allows(t, "8.7.255.255", api.OK, eight)
	for _, deny := range [][]api.Net{{eight, v6, one}, {one, v6, eight}, {v6, eight, one}} {
		allows(t, "8.8.255.255", api.ErrDenied, deny...)
		allows(t, "9.9.9.9", api.ErrDenied, deny...)
		allows(t, "2606:4700::1", api.ErrDenied, deny...)
		allows(t, "9.9.9.8", api.OK, deny...)
		allows(t, "2606:4701::1", api.OK, deny...)
		allows(t, "10.0.0.1", api.ErrDenied, deny...)
		for _, a := range forms(ip.V4(9, 9, 9, 9)) {
			if e := Allow(a, deny); e != api.ErrDenied {
				t.Errorf("Allow(%v), which carries 9.9.9.9, = %d", a, e)
			}
		}
	}
	// A net denies what it has, the carrier or the carried one.
	allows(t, "2002:808:808::", api.ErrDenied, net(t, "2002::/16"))
	allows(t, "8.8.8.8", api.OK, net(t, "2002::/16"))
	allows(t, "8.8.8.8", api.ErrDenied, net(t, "0.0.0.0/0"))
	allows(t, "2002:808:808::", api.ErrDenied, net(t, "0.0.0.0/0"))
	allows(t, "2606:4700::1", api.OK, net(t, "0.0.0.0/0"))
	allows(t, "2606:4700::1", api.ErrDenied, net(t, "::/0"))
	// A mapped address is asked of as the IPv4 that it is, which no net of IPv6 has.
	allows(t, "::ffff:8.8.8.8", api.OK, net(t, "::/0"))
	allows(t, "::ffff:8.8.8.8", api.OK, net(t, "::ffff:0:0/96"))
	allows(t, "8.8.8.8", api.OK, net(t, "::/0"))
}

func TestCi2AllowWrong(t *testing.T) {
	for _, a := range wrongAddrs() {
		for _, deny := range [][]api.Net{nil, {}, {{}}, {net(t, "10.0.0.0/8")}} {
			if e := Allow(a, deny); e != api.ErrArg {
				t.Errorf("Allow(%v, %v) = %d", a, deny, e)
			}
		}
	}
	right := net(t, "8.8.0.0/16")
	for _, n := range wrongNets(t) {
		for _, deny := range [][]api.Net{{n}, {right, n}, {n, right}, {right, n, right}} {
			for _, s := range []string{"9.9.9.9", "8.8.8.8", "10.0.0.1", "::1", "2002:7f00:1::", "2606::1", "::ffff:10.0.0.1"} {
				allows(t, s, api.ErrArg, deny...)
			}
		}
	}
}

// TestCi3Allow: of many addresses, in all forms, Allow tells what this file's own reckoning does.
func TestCi3Allow(t *testing.T) {
	deny := []api.Net{net(t, "8.0.0.0/6"), net(t, "2600::/13")}
	let, denied := 0, 0
	try := func(a api.Addr) {
		for _, d := range [][]api.Net{nil, deny} {
			want := wanted(t, a, d)
			if e := Allow(a, d); e != want {
				t.Errorf("Allow(%v, %v) = %d, want %d", a, d, e, want)
			}
			if want == api.OK {
				let++
			} else {
				denied++
			}
		}
	}
	for i := range 256 {
		for _, rest := range [][3]byte{{}, {255, 255, 255}, {64, 2, 1}} {
			for _, a := range forms(ip.V4(byte(i), rest[0], rest[1], rest[2])) {
				try(a)
			}
		}
		for _, second := range []byte{0, 1, 0x80, 0xff} {
			try(api.Addr{V6: true, B: [16]byte{byte(i), second, 15: 1}})
			try(api.Addr{V6: true, B: [16]byte{0x20, 0x01, second, byte(i)}})
		}
	}
	if let < 1000 || denied < 1000 {
		t.Errorf("%d were let, %d denied", let, denied)
	}
}

// TestR3Arguments: nets that are handed in, and the room behind them, stay as they were.
func TestR3Arguments(t *testing.T) {
	room := []api.Net{net(t, "8.8.0.0/16"), net(t, "2600::/13"), net(t, "1.2.3.5/31"), net(t, "9.9.9.9/32")}
	was := slices.Clone(room)
	allows(t, "8.8.8.8", api.ErrDenied, room[:2]...)
	allows(t, "2002:909:909::", api.OK, room[:2]...)
	allows(t, "9.9.9.9", api.OK, room[:2]...)
	allows(t, "9.9.9.9", api.ErrArg, room...)
	if !slices.Equal(room, was) {
		t.Error("Allow changed what was handed in")
	}
}

func TestR1LongTexts(t *testing.T) {
	long := strings.Repeat("0", 1<<20)
	for _, s := range []string{
		long, "10.0.0.0/" + long, "10.0.0.0/8" + long, "10.0.0.0/" + long + "8", long + "/8", strings.Repeat("/", 1<<20),
		"::/" + strings.Repeat("9", 1<<20), "10.0.0.0/-" + long, "10.0.0.0/" + strings.Repeat(" ", 1<<20) + "8", strings.Repeat("10.0.0.0/8", 1<<16),
	} {
		parsesNot(t, s)
	}
	deny := slices.Repeat([]api.Net{net(t, "8.8.0.0/16")}, 1<<16)
	allows(t, "9.9.9.9", api.OK, deny...)
	allows(t, "2002:909:909::", api.ErrDenied, append(deny, net(t, "9.9.9.9/32"))...)
}
