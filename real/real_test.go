package real

import (
	"math"
	"math/big"
	"regexp"
	"strconv"
	"strings"
	"sync"
	"testing"

	"stole/api"
)

const (
	signBit  = 1 << 63
	infinity = 2047 << 52
	fraction = 1<<52 - 1
)

// told is what the three calls answer of one real.
type told struct {
	kind  int
	text  string
	whole int
	is    bool
}

// ask gives what the three calls answer.
func ask(bits uint64) told {
	n, is := Whole(bits)
	return told{Kind(bits), Text(bits), n, is}
}

// wanted reckons by whole numbers alone what the document asks of these bits.
func wanted(bits uint64) told {
	minus := ""
	if bits&signBit != 0 {
		minus = "-"
	}
	field, frac := int(bits>>52)&2047, bits&fraction
	switch {
	case field == 2047 && frac != 0:
		return told{api.RealNan, "NaN", 0, false}
	case field == 2047:
		return told{api.RealInf, minus + "Infinity", 0, false}
	case field == 0 && frac == 0:
		return told{api.RealZero, minus + "0", 0, true}
	}
	m, e := frac, -1074
	if field > 0 {
		m, e = frac+1<<52, field-1075
	}
	for m%2 == 0 {
		m, e = m/2, e+1
	}
	if e >= 0 && e < 53 {
		n := new(big.Int).Lsh(new(big.Int).SetUint64(m), uint(e))
		if n.Cmp(big.NewInt(api.MaxInt)) <= 0 {
			w := int(n.Int64())
			if minus != "" {
				w = -w
			}
			return told{api.RealWhole, strconv.Itoa(w), w, true}
		}
	}
	return told{api.RealOther, minus + strconv.FormatUint(m, 10) + "p" + strconv.Itoa(e), 0, false}
}

// hold holds what the calls answer of these bits, and of those with the other sign, against what is wanted.
func hold(t *testing.T, bits uint64) {
	t.Helper()
	for _, b := range []uint64{bits, bits ^ signBit} {
		if got, want := ask(b), wanted(b); got != want {
			t.Fatalf("P3.1: %#016x: %v, want %v", b, got, want)
		}
	}
}

func TestListed(t *testing.T) {
	whole, other := api.RealWhole, api.RealOther
	for _, c := range []struct {
		bits uint64
		want told
	}{
		{0, told{api.RealZero, "0", 0, true}},
		{signBit, told{api.RealZero, "-0", 0, true}},
		{infinity, told{api.RealInf, "Infinity", 0, false}},
		{signBit | infinity, told{api.RealInf, "-Infinity", 0, false}},
		{infinity | 1, told{api.RealNan, "NaN", 0, false}},
		{infinity | 1<<51, told{api.RealNan, "NaN", 0, false}},
		{infinity | fraction, told{api.RealNan, "NaN", 0, false}},
		{signBit | infinity | 1, told{api.RealNan, "NaN", 0, false}},
		{signBit | infinity | 1<<51 | 5, told{api.RealNan, "NaN", 0, false}},
		{math.MaxUint64, told{api.RealNan, "NaN", 0, false}},
		{math.Float64bits(1), told{whole, "1", 1, true}},
		{math.Float64bits(-1), told{whole, "-1", -1, true}},
		{math.Float64bits(10), told{whole, "10", 10, true}},
		{math.Float64bits(-1e15), told{whole, "-1000000000000000", -1000000000000000, true}},
		{math.Float64bits(1 << 52), told{whole, "4503599627370496", 1 << 52, true}},
		{math.Float64bits(9007199254740990), told{whole, "9007199254740990", 9007199254740990, true}},
		{math.Float64bits(9007199254740991), told{whole, "9007199254740991", api.MaxInt, true}},
		{math.Float64bits(-9007199254740991), told{whole, "-9007199254740991", -api.MaxInt, true}},
		{math.Float64bits(9007199254740992), told{other, "1p53", 0, false}},
		{math.Float64bits(-9007199254740992), told{other, "-1p53", 0, false}},
		{math.Float64bits(9007199254740994), told{other, "4503599627370497p1", 0, false}},
		{math.Float64bits(9223372036854775808), told{other, "1p63", 0, false}},
		{math.Float64bits(-9223372036854775808), told{other, "-1p63", 0, false}},
		{math.Float64bits(18446744073709551616), told{other, "1p64", 0, false}},
		{math.Float64bits(1e22), told{other, "2384185791015625p22", 0, false}},
		{math.Float64bits(0.5), told{other, "1p-1", 0, false}},
		{math.Float64bits(-0.75), told{other, "-3p-2", 0, false}},
		{math.Float64bits(2.5), told{other, "5p-1", 0, false}},
		{math.Float64bits(0.1), told{other, "3602879701896397p-55", 0, false}},
		{math.Float64bits(-0.3), told{other, "-5404319552844595p-54", 0, false}},
		{math.Float64bits(4503599627370495.5), told{other, "9007199254740991p-1", 0, false}},
		{1, told{other, "1p-1074", 0, false}},
		{signBit | 1, told{other, "-1p-1074", 0, false}},
		{2, told{other, "1p-1073", 0, false}},
		{3, told{other, "3p-1074", 0, false}},
		{1 << 51, told{other, "1p-1023", 0, false}},
		{fraction, told{other, "4503599627370495p-1074", 0, false}},
		{1 << 52, told{other, "1p-1022", 0, false}},
		{1<<52 | 1, told{other, "4503599627370497p-1074", 0, false}},
		{1 << 53, told{other, "1p-1021", 0, false}},
		{infinity - 1, told{other, "9007199254740991p971", 0, false}},
		{signBit | infinity - 1, told{other, "-9007199254740991p971", 0, false}},
		{2046 << 52, told{other, "1p1023", 0, false}},
	} {
		if got := ask(c.bits); got != c.want {
			t.Errorf("P3.1: %#016x: %v, want %v", c.bits, got, c.want)
		}
		hold(t, c.bits)
	}
}

// TestEachExponent goes over each exponent's field, with fractions of one bit, of all bits from one on, and near those.
func TestEachExponent(t *testing.T) {
	for field := range uint64(2048) {
		for bit := range 53 {
			one := uint64(1) << bit & fraction
			from := fraction &^ (uint64(1)<<bit - 1)
			for _, frac := range []uint64{one, one | 1, (one - 1) & fraction, from, from ^ 1} {
				hold(t, field<<52|frac)
			}
		}
	}
}

func TestWholeNumbers(t *testing.T) {
	holdWhole := func(n int) {
		t.Helper()
		want := told{api.RealWhole, strconv.Itoa(n), n, true}
		if n == 0 {
			want.kind = api.RealZero
		}
		if got := ask(math.Float64bits(float64(n))); got != want {
			t.Fatalf("P3.1: %d: %v, want %v", n, got, want)
		}
	}
	for n := range 5000 {
		holdWhole(n)
		holdWhole(-n)
		holdWhole(api.MaxInt - n)
		holdWhole(n - api.MaxInt)
	}
	for bit := range 53 {
		for near := range 7 {
			n := min(max(1<<bit+near-3, 0), api.MaxInt)
			holdWhole(n)
			holdWhole(-n)
		}
	}
}

// TestFractionsAndGreatNumbers goes over odd numbers by powers of 2 that lead out of the whole numbers at either end.
func TestFractionsAndGreatNumbers(t *testing.T) {
	for k := range 2000 {
		m := 2*k + 1
		for e := 1; e <= 60; e++ {
			below := ask(math.Float64bits(math.Ldexp(float64(m), -e)))
			text := strconv.Itoa(m) + "p-" + strconv.Itoa(e)
			if below != (told{api.RealOther, text, 0, false}) {
				t.Fatalf("P3.1: %s: %v", text, below)
			}
			above := ask(math.Float64bits(math.Ldexp(float64(-m), 52+e)))
			text = "-" + strconv.Itoa(m) + "p" + strconv.Itoa(52+e)
			if above != (told{api.RealOther, text, 0, false}) {
				t.Fatalf("P3.1: %s: %v", text, above)
			}
		}
	}
}

// TestTextReadsBack reads the texts back as exact numbers.
func TestTextReadsBack(t *testing.T) {
	shape := regexp.MustCompile(`^-?[1-9][0-9]*(p(0|-?[1-9][0-9]*))?$`)
	x := uint64(1)
	for range 20000 {
		x = x*6364136223846793005 + 1442695040888963407
		b := x ^ x>>31
		f := math.Float64frombits(b)
		hold(t, b)
		if math.IsNaN(f) || math.IsInf(f, 0) || f == 0 {
			continue
		}
		s := Text(b)
		if !shape.MatchString(s) {
			t.Fatalf("P3.1: %#016x: %s", b, s)
		}
		ahead, power, is := strings.Cut(s, "p")
		m, _ := new(big.Float).SetPrec(64).SetString(ahead)
		e, _ := strconv.Atoi(power)
		if is != (Kind(b) == api.RealOther) || m.SetMantExp(m, e).Cmp(new(big.Float).SetFloat64(f)) != 0 {
			t.Fatalf("P3.1: %#016x: %s", b, s)
		}
	}
}

// TestSeveralAtOnce: the calls keep nothing, so they may be made at one time.
func TestSeveralAtOnce(t *testing.T) {
	var all sync.WaitGroup
	for g := range uint64(8) {
		all.Go(func() {
			for i := range uint64(2000) {
				b := (i*8 + g) * 0x9E3779B97F4A7C15
				if got, want := ask(b), wanted(b); got != want {
					t.Errorf("P3.1: %#016x: %v, want %v", b, got, want)
				}
			}
		})
	}
	all.Wait()
}
