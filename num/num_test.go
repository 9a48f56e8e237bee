package num

import (
	"math"
	"math/big"
	"strconv"
	"strings"
	"testing"

	"rehearsal/api"
)

// reading is what a text should be read as.
type reading struct {
	s    string
	want int
	e    api.Errno
}

func checkReadings(t *testing.T, name string, read func(string) (int, api.Errno), l []reading) {
	t.Helper()
	for _, r := range l {
		if n, e := read(r.s); n != r.want || e != r.e {
			t.Errorf("%s(%q) = %d, %d; want %d, %d", name, r.s, n, e, r.want, r.e)
		}
	}
}

// naturals are numbers around all powers of two, of three and of ten, and the ends of the range.
func naturals() []uint64 {
	l := []uint64{0, math.MaxInt64, 1 << 63, math.MaxUint64}
	for _, by := range []uint64{2, 3, 10} {
		for n := uint64(1); ; n *= by {
			l = append(l, n-1, n, n+1, n+n/7)
			if n > math.MaxUint64/by {
				break
			}
		}
	}
	return l
}

// wholes are the naturals' bits, and those of their opposites, as numbers with a sign.
func wholes() []int {
	l := []int{math.MinInt, math.MinInt + 1, math.MaxInt - 1, math.MaxInt}
	for _, n := range naturals() {
		l = append(l, int(n), int(-n))
	}
	return l
}

// P1.1: digits of every base from 2 to 16, without noughts ahead, in small letters.
func TestBase(t *testing.T) {
	for base := 2; base <= 16; base++ {
		for _, n := range naturals() {
			if got, want := Base(n, base), strconv.FormatUint(n, base); got != want {
				t.Errorf("Base(%d, %d) = %q; want %q", n, base, got, want)
			}
		}
	}
	for _, c := range []struct {
		n    uint64
		base int
		want string
	}{
		{0, 2, "0"}, {0, 16, "0"}, {1, 2, "1"}, {2, 2, "10"}, {9, 10, "9"}, {10, 10, "10"},
		{10, 11, "a"}, {15, 16, "f"}, {16, 16, "10"}, {0xabcdef, 16, "abcdef"}, {8, 8, "10"},
		{math.MaxUint64, 2, strings.Repeat("1", 64)},
		{math.MaxUint64, 10, "18446744073709551615"},
		{math.MaxUint64, 16, "ffffffffffffffff"},
	} {
		if got := Base(c.n, c.base); got != c.want {
			t.Errorf("Base(%d, %d) = %q; want %q", c.n, c.base, got, c.want)
		}
	}
}

// P1.1: no base but those from 2 to 16.
func TestBaseOfNoBase(t *testing.T) {
	for _, base := range []int{math.MinInt, -16, -10, -2, -1, 0, 1, 17, 18, 32, 36, 256 + 10, 1<<32 + 10, math.MaxInt} {
		for _, n := range []uint64{0, 1, 255, math.MaxUint64} {
			if got := Base(n, base); got != "" {
				t.Errorf("Base(%d, %d) = %q; want an empty text", n, base, got)
			}
		}
	}
}

// P1.1: Base 10, with a - ahead of what is below 0.
func TestText(t *testing.T) {
	for _, n := range wholes() {
		if got, want := Text(n), strconv.Itoa(n); got != want {
			t.Errorf("Text(%d) = %q", n, got)
		}
	}
	for want, n := range map[string]int{
		"-5": -5, "0": 0, "7": 7, "-1": -1, "100": 100, "-100": -100,
		"-9223372036854775808": math.MinInt64, "9223372036854775807": math.MaxInt64,
	} {
		if got := Text(n); got != want {
			t.Errorf("Text(%d) = %q; want %q", n, got, want)
		}
	}
}

// P1.2: one sign at most, digits, and the range's ends.
func TestDecimal(t *testing.T) {
	checkReadings(t, "Decimal", Decimal, []reading{
		{"0", 0, 0}, {"-0", 0, 0}, {"+0", 0, 0}, {"7", 7, 0}, {"+7", 7, 0}, {"-7", -7, 0},
		{"007", 7, 0}, {"-010", -10, 0}, {"1234567890", 1234567890, 0},
		{"9223372036854775807", math.MaxInt64, 0}, {"+9223372036854775807", math.MaxInt64, 0},
		{"-9223372036854775807", -math.MaxInt64, 0}, {"-9223372036854775808", math.MinInt64, 0},
		{strings.Repeat("0", 100) + "12", 12, 0}, {"-" + strings.Repeat("0", 100) + "12", -12, 0},
		{"9223372036854775808", 0, api.ErrRange}, {"+9223372036854775808", 0, api.ErrRange},
		{"-9223372036854775809", 0, api.ErrRange}, {"92233720368547758070", 0, api.ErrRange},
		{"-92233720368547758080", 0, api.ErrRange},
		// Out of range by a digit behind which a 0 would not be.
		{"92233720368547758080", 0, api.ErrRange}, {"-92233720368547758090", 0, api.ErrRange},
	})
	// Numbers that would be small ones again, if they wrapped round.
	for _, bits := range []uint{63, 64, 65, 128, 192} {
		for more := int64(0); more <= 20; more++ {
			n := new(big.Int).Lsh(big.NewInt(1), bits)
			s := n.Add(n, big.NewInt(more)).String()
			checkReadings(t, "Decimal", Decimal, []reading{{s, 0, api.ErrRange}})
			if bits > 63 || more > 0 {
				checkReadings(t, "Decimal", Decimal, []reading{{"-" + s, 0, api.ErrRange}})
			}
		}
	}
}

// P1.2: what is no number; also where a number ahead of the fault is out of range.
func TestDecimalOfNoNumber(t *testing.T) {
	for _, s := range []string{
		"", "+", "-", "+-1", "-+1", "--1", "++1", "1-", "1+", "- 1", " 1", "1 ", "\t1", "1\n", "1x", "x1",
		"a", "f", "1a", "0x10", "0b1", "1_000", "1,000", "1.0", "1e3", "/", ":", "1/", "1:", "\x00", "1\x00", "\xff", "1\xb1",
		"\u0661", "\uff11", "\u22121",
		"9223372036854775808x", "-99999999999999999999999999x", "99999999999999999999999999 ",
	} {
		checkReadings(t, "Decimal", Decimal, []reading{{s, 0, api.ErrNumber}})
	}
}

// P1.3: the three bases, and the range's end in each.
func TestConstant(t *testing.T) {
	checkReadings(t, "Constant", Constant, []reading{
		{"0", 0, 0}, {"1", 1, 0}, {"9", 9, 0}, {"10", 10, 0}, {"1234567890", 1234567890, 0},
		{"00", 0, 0}, {"000", 0, 0}, {"01", 1, 0}, {"010", 8, 0}, {"0010", 8, 0}, {"01234567", 342391, 0}, {"0777", 511, 0},
		{"0x0", 0, 0}, {"0X0", 0, 0}, {"0x1F", 31, 0}, {"0x1f", 31, 0}, {"0X1f", 31, 0}, {"0XaBcDeF", 0xabcdef, 0},
		{"0x0123456789", 0x123456789, 0}, {"0x0001", 1, 0},
		{"9223372036854775807", math.MaxInt64, 0}, {"0777777777777777777777", math.MaxInt64, 0},
		{"0x7fffffffffffffff", math.MaxInt64, 0}, {"0x" + strings.Repeat("0", 100) + "c", 12, 0},
		{strings.Repeat("0", 100) + "14", 12, 0},
		{"9223372036854775808", 0, api.ErrRange}, {"01000000000000000000000", 0, api.ErrRange},
		{"0x8000000000000000", 0, api.ErrRange}, {"0xffffffffffffffff", 0, api.ErrRange},
		{"18446744073709551616", 0, api.ErrRange}, {"02000000000000000000001", 0, api.ErrRange},
		{"0x10000000000000001", 0, api.ErrRange}, {"18446744073709551623", 0, api.ErrRange},
		{"92233720368547758080", 0, api.ErrRange},
	})
}

// P1.3: what is no number: a sign is no digit, and each base has digits of its own.
func TestConstantOfNoNumber(t *testing.T) {
	for _, s := range []string{
		"", "08", "09", "008", "0108", "0a", "0f", "1a", "a", "f", "x", "x1", "0x", "0X", "0xg", "0xG", "0x1g", "0x0x1", "0xx1", "00x1", "1x1",
		"0b1", "0o7", "+1", "-1", "-0", "0-1", "0+1", "0x-1", "0x+1", "0 ", " 0", "0x ", "0x1 ", "01 ", "1 ", "1_0", "0_1", "0x_1", "1.0",
		"/", ":", "0/", "0x/", "0x:", "0x@", "0x`", "0\x00", "0x\x00", "\xff", "0\xb1", "0x\xe1", "\u0661",
		"9223372036854775808x", "010000000000000000000008", "0x80000000000000000g",
	} {
		checkReadings(t, "Constant", Constant, []reading{{s, 0, api.ErrNumber}})
	}
}

// P1.4: up to four digits of base 8, up to 777.
func TestMode(t *testing.T) {
	checkReadings(t, "Mode", Mode, []reading{
		{"0", 0, 0}, {"7", 7, 0}, {"00", 0, 0}, {"0000", 0, 0}, {"0007", 7, 0}, {"10", 8, 0}, {"644", 420, 0},
		{"0644", 420, 0}, {"755", 493, 0}, {"0755", 493, 0}, {"777", 511, 0}, {"0777", 511, 0},
		{"1000", 0, api.ErrRange}, {"1001", 0, api.ErrRange}, {"1777", 0, api.ErrRange}, {"7777", 0, api.ErrRange},
		{"00000", 0, api.ErrNumber}, {"00644", 0, api.ErrNumber}, {"00777", 0, api.ErrNumber}, {"01000", 0, api.ErrNumber},
		{"10000", 0, api.ErrNumber}, {"77777", 0, api.ErrNumber}, {strings.Repeat("0", 1000), 0, api.ErrNumber},
		{"", 0, api.ErrNumber}, {"8", 0, api.ErrNumber}, {"9", 0, api.ErrNumber}, {"648", 0, api.ErrNumber},
		{"1008", 0, api.ErrNumber}, {"777x", 0, api.ErrNumber}, {"a", 0, api.ErrNumber}, {"+1", 0, api.ErrNumber},
		{"-1", 0, api.ErrNumber}, {"-644", 0, api.ErrNumber}, {"0x1", 0, api.ErrNumber}, {"u+x", 0, api.ErrNumber},
		{" 644", 0, api.ErrNumber}, {"644 ", 0, api.ErrNumber}, {"64 4", 0, api.ErrNumber}, {"/", 0, api.ErrNumber},
		{"\x00", 0, api.ErrNumber}, {"\xff", 0, api.ErrNumber}, {"\u0661", 0, api.ErrNumber},
	})
}

// P1.4: each text of up to four digits, held against the library's reading.
func TestModeOfAllDigits(t *testing.T) {
	for bytes := 1; bytes <= 4; bytes++ {
		for n := range 10000 {
			s := strings.Repeat("0", 4) + strconv.Itoa(n)
			s = s[len(s)-bytes:]
			r := reading{s: s, e: api.ErrNumber}
			if n, err := strconv.ParseUint(s, 8, 64); err == nil && n > 0o777 {
				r.e = api.ErrRange
			} else if err == nil {
				r.want, r.e = int(n), api.OK
			}
			checkReadings(t, "Mode", Mode, []reading{r})
		}
	}
}

// P1.2, P1.3, P1.4: which bytes are digits of the base that is read, held against the library's reading.
func TestDigits(t *testing.T) {
	for c := range 256 {
		b := string([]byte{byte(c)})
		for _, r := range []struct {
			name  string
			read  func(string) (int, api.Errno)
			ahead string
			base  int
		}{
			{"Decimal", Decimal, "", 10}, {"Decimal", Decimal, "-", 10}, {"Constant", Constant, "", 10}, {"Constant", Constant, "0", 8},
			{"Constant", Constant, "0x", 16}, {"Constant", Constant, "0X", 16}, {"Mode", Mode, "", 8},
		} {
			want := reading{s: r.ahead + "1" + b, e: api.ErrNumber}
			if n, err := strconv.ParseUint("1"+b, r.base, 64); err == nil {
				want.want, want.e = int(n), api.OK
			}
			if r.ahead == "-" {
				want.want = -want.want
			}
			checkReadings(t, r.name, r.read, []reading{want})
		}
	}
}

// P1.5: what Text writes, Decimal reads.
func TestDecimalOfText(t *testing.T) {
	for _, n := range wholes() {
		checkReadings(t, "Decimal", Decimal, []reading{{Text(n), n, api.OK}})
	}
}

// P1.5: what Base writes in base 10, in 8 behind a 0 and in 16 behind 0x, Constant reads.
func TestConstantOfBase(t *testing.T) {
	for _, n := range naturals() {
		r := reading{want: int(n)}
		if n > math.MaxInt64 {
			r = reading{e: api.ErrRange}
		}
		sixteen := Base(n, 16)
		for _, s := range []string{
			Base(n, 10), "0" + Base(n, 8), "0x" + sixteen, "0X" + sixteen,
			"0x" + strings.ToUpper(sixteen), "0X" + strings.ToUpper(sixteen),
		} {
			r.s = s
			checkReadings(t, "Constant", Constant, []reading{r})
		}
	}
}
