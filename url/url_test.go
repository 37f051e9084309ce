package url

import (
	"fmt"
	"math/rand"
	neturl "net/url"
	"regexp"
	"strings"
	"sync"
	"testing"
	"time"

	"stole/utf"
)

// safe are the schemes that an address may begin with.
var safe = []string{"http", "https", "mailto", "tel"}

// bad is the sign for what is none, and toldBad how an address tells it.
const (
	bad     = "\uFFFD"
	toldBad = "%EF%BF%BD"
)

// one gives the text of one byte.
func one(b int) string { return string([]byte{byte(b)}) }

func letter(b int) bool { return b >= 'A' && b <= 'Z' || b >= 'a' && b <= 'z' }

func digit(b int) bool { return b >= '0' && b <= '9' }

// checkScheme holds Scheme of s against a scheme that is wanted.
func checkScheme(t *testing.T, s, want string) {
	t.Helper()
	if got, is := Scheme(s); got != want || !is {
		t.Errorf("P9.1: Scheme(%q) = %q, %v, want %q", s, got, is, want)
	}
}

// refuseScheme holds Scheme of s against false with an empty text beside it.
func refuseScheme(t *testing.T, s string) {
	t.Helper()
	if got, is := Scheme(s); got != "" || is {
		t.Errorf("P9.1, R2: Scheme(%q) = %q, %v, want none", s, got, is)
	}
}

func checkStart(t *testing.T, s, want string) {
	t.Helper()
	if got := Start(s); got != want {
		t.Errorf("P9.2: Start(%q) = %q, want %q", s, got, want)
	}
}

func checkPart(t *testing.T, s, want string) {
	t.Helper()
	if got := Part(s); got != want {
		t.Errorf("P9.3: Part(%q) = %q, want %q", s, got, want)
	}
}

func TestSchemes(t *testing.T) {
	checkScheme(t, "http://x", "http")
	checkScheme(t, "javascript:alert(1)", "javascript")
	checkScheme(t, "HtTpS:", "https")
	checkScheme(t, "ABCDEFGHIJKLMNOPQRSTUVWXYZ:", "abcdefghijklmnopqrstuvwxyz")
	checkScheme(t, "a:", "a")
	checkScheme(t, "a::", "a")
	checkScheme(t, "mailto:a:b", "mailto")
	checkScheme(t, "a:\x00\xff", "a")
	checkScheme(t, "a+b-c.9:x", "a+b-c.9")
	for _, s := range []string{"", " ", "\x00", ":", "::", " :", ":a:", "a", "abc", "http", "//a:b", "/a:b", "a/b:c", "a/:", "a?b:c", "a#b:c", "a%3A", "a b:c", "a_b:c", "a~:", "é:", "a" + bad + ":", bad + "a:", "\u00A0a:", "a：b"} {
		refuseScheme(t, s)
	}
}

func TestSchemesBehindSmallBytes(t *testing.T) {
	small := ""
	for b := range 33 {
		small += one(b)
		refuseScheme(t, one(b))
		refuseScheme(t, one(b)+":")
		checkScheme(t, one(b)+"a:", "a")
		checkScheme(t, strings.Repeat(one(b), 5)+"Ab:c", "ab")
	}
	refuseScheme(t, small)
	refuseScheme(t, small+small+":")
	checkScheme(t, small+small+"http:", "http")
	for b := 33; b < 256; b++ {
		refuseScheme(t, one(b))
		if !letter(b) {
			refuseScheme(t, one(b)+"a:")
			refuseScheme(t, " "+one(b)+"a:")
		}
	}
}

func TestSchemesWithSmallBytesWithin(t *testing.T) {
	for b := range 33 {
		passed := b == 9 || b == 10 || b == 13
		for _, s := range []string{"java" + one(b) + "script:", "j" + one(b) + one(b) + "avascript:", "javascript" + one(b) + ":x", " j" + one(b) + "avascrip" + one(b) + "t" + one(b) + ":"} {
			if passed {
				checkScheme(t, s, "javascript")
			} else {
				refuseScheme(t, s)
			}
		}
	}
	checkScheme(t, "\r\n\tja\r\nva\t\tscript\n\r\t:", "javascript")
	checkScheme(t, "\n \t\x01\r a\n:", "a")
	// A small byte behind those that are passed over is within the scheme all the same.
	refuseScheme(t, "a\n :")
	refuseScheme(t, "a\t\x00b:")
	refuseScheme(t, "a\n")
	refuseScheme(t, "\n:")
}

func TestSchemesOfEachByte(t *testing.T) {
	for b := range 256 {
		low := utf.Lower(one(b))
		first := letter(b)
		more := first || digit(b) || strings.Contains("+-.", one(b))
		passed := b == 9 || b == 10 || b == 13
		if first {
			checkScheme(t, one(b)+":", low)
			checkScheme(t, one(b)+"9:", low+"9")
		} else {
			refuseScheme(t, one(b)+":")
			refuseScheme(t, one(b)+"9:")
		}
		switch {
		case more:
			checkScheme(t, "x"+one(b)+":", "x"+low)
			checkScheme(t, "x"+one(b)+"y:", "x"+low+"y")
		case passed:
			checkScheme(t, "x"+one(b)+":", "x")
			checkScheme(t, "x"+one(b)+"y:", "xy")
		case b == ':':
			checkScheme(t, "x"+one(b)+"y:", "x")
		default:
			refuseScheme(t, "x"+one(b)+":")
			refuseScheme(t, "x"+one(b)+"y:")
		}
	}
}

// TestSchemesOfChance holds Scheme against a second reckoning that takes bytes away first, of all short rows and of random ones.
func TestSchemesOfChance(t *testing.T) {
	form := regexp.MustCompile(`^([A-Za-z][A-Za-z0-9+.\-]*):`)
	hold := func(s string) {
		first := 0
		for first < len(s) && s[first] <= 32 {
			first++
		}
		want := ""
		if m := form.FindStringSubmatch(strings.NewReplacer("\t", "", "\n", "", "\r", "").Replace(s[first:])); m != nil {
			want = strings.ToLower(m[1])
		}
		if got, is := Scheme(s); got != want || is != (want != "") {
			t.Fatalf("P9.1: Scheme(%q) = %q, %v, want %q", s, got, is, want)
		}
	}
	const signs = "aZ0+.:/\t\r\n \x00\x1f!\xff"
	rows := []string{""}
	for range 4 {
		var next []string
		for _, s := range rows {
			hold(s)
			for i := range len(signs) {
				next = append(next, s+signs[i:i+1])
			}
		}
		rows = next
	}
	for _, s := range rows {
		hold(s)
	}
	r := rand.New(rand.NewSource(9))
	for range 50000 {
		s := ""
		for range r.Intn(12) {
			if r.Intn(8) == 0 {
				s += one(r.Intn(256))
			} else {
				s += one(int(signs[r.Intn(len(signs))]))
			}
		}
		hold(s + ":x")
	}
}

func TestStartOfSafeSchemes(t *testing.T) {
	for _, scheme := range safe {
		great := strings.ToUpper(scheme)
		checkStart(t, scheme+":", scheme+":")
		checkStart(t, scheme+"://a/b", scheme+"://a/b")
		checkStart(t, great+":x", great+":x")
		checkStart(t, great[:1]+scheme[1:]+":x", great[:1]+scheme[1:]+":x")
		checkStart(t, scheme+":javascript:x", scheme+":javascript:x")
		for b := 1; b < 33; b++ {
			told := fmt.Sprintf("%%%02X", b)
			checkStart(t, one(b)+scheme+":x", told+scheme+":x")
			checkStart(t, one(b)+one(b)+great+":x", told+told+great+":x")
			// What is no scheme, for a small byte stands within it, stays as well.
			checkStart(t, scheme[:2]+one(b)+scheme[2:]+":x", scheme[:2]+told+scheme[2:]+":x")
			checkStart(t, scheme+one(b)+":x", scheme+told+":x")
		}
	}
}

func TestStartOfOtherSchemes(t *testing.T) {
	others := []string{"javascript", "data", "vbscript", "file", "ftp", "a", "z", "x9", "x+y-z.0", "blob", "ws", "about"}
	for _, scheme := range safe {
		others = append(others, scheme+"x", scheme+"9", scheme+"+", scheme+"-", scheme+".", "x"+scheme)
		if short := scheme[:len(scheme)-1]; short != "http" {
			others = append(others, short)
		}
		others = append(others, scheme[:1], scheme[1:])
	}
	for _, scheme := range others {
		for _, s := range []string{scheme, strings.ToUpper(scheme)} {
			checkStart(t, s+":", refused)
			checkStart(t, s+":x", refused)
			checkStart(t, s+"://http:", refused)
			for b := 1; b < 33; b++ {
				checkStart(t, one(b)+s+":", refused)
			}
			for _, b := range []string{"\t", "\n", "\r"} {
				checkStart(t, s[:1]+b+s[1:]+":x", refused)
				checkStart(t, s+b+":x", refused)
				checkStart(t, b+" "+b+s+b+b+":x", refused)
			}
		}
		checkStart(t, scheme, scheme)
		checkStart(t, "/"+scheme+":x", "/"+scheme+":x")
		checkStart(t, "?"+scheme+":x", "?"+scheme+":x")
		checkStart(t, "#"+scheme+":x", "#"+scheme+":x")
		checkStart(t, ":"+scheme+":x", ":"+scheme+":x")
		checkStart(t, "9"+scheme+":x", "9"+scheme+":x")
		checkStart(t, scheme+" :x", scheme+"%20:x")
		checkStart(t, scheme+"%3Ax", scheme+"%3Ax")
	}
	if refused != "#ZgotmplZ" {
		t.Errorf("P9.2: what stands for other schemes is %q", refused)
	}
}

func TestStartOfEachByte(t *testing.T) {
	for b := range 256 {
		want := fmt.Sprintf("%%%02X", b)
		switch {
		case b == 0 || b > 127:
			want = toldBad
		case letter(b) || digit(b) || strings.Contains("-._~:/?#[]@!$&*+,;=%", one(b)):
			want = one(b)
		}
		checkStart(t, one(b), want)
		checkStart(t, "/"+one(b), "/"+want)
		checkStart(t, "/a"+one(b)+"Z", "/a"+want+"Z")
	}
	checkStart(t, "", "")
	checkStart(t, "a'b\"c(d)<e>", "a%27b%22c%28d%29%3Ce%3E")
	checkStart(t, "/x?y=1&z=%41%zz%#w%25", "/x?y=1&z=%41%zz%#w%25")
	checkStart(t, "a b\\c^d`e{f|g}h", "a%20b%5Cc%5Ed%60e%7Bf%7Cg%7Dh")
}

func TestStartOfNorm(t *testing.T) {
	for _, c := range []struct{ in, norm string }{
		{"\x00", toldBad}, {"\xff", toldBad}, {"\xe2\x82", toldBad + toldBad}, {"\xed\xa0\x80", toldBad + toldBad + toldBad},
		{"\xc0\x80", toldBad + toldBad}, {"é", "%C3%A9"}, {"\u2028", "%E2%80%A8"}, {"\U0001F600", "%F0%9F%98%80"}, {bad, toldBad},
	} {
		checkStart(t, c.in, c.norm)
		checkStart(t, c.in+"/x", c.norm+"/x")
		checkStart(t, "/x"+c.in+"y", "/x"+c.norm+"y")
		checkStart(t, "/x"+c.in, "/x"+c.norm)
		checkStart(t, "https://"+c.in, "https://"+c.norm)
		// Norm comes ahead of Scheme: a byte 0 hides no scheme, but is a sign that none begins with.
		checkStart(t, c.in+"javascript:x", c.norm+"javascript:x")
		checkStart(t, " "+c.in+"javascript:x", "%20"+c.norm+"javascript:x")
		checkStart(t, "java"+c.in+"script:x", "java"+c.norm+"script:x")
		checkStart(t, "javascript:"+c.in, refused)
		checkPart(t, c.in, c.norm)
		checkPart(t, c.in+"x", c.norm+"x")
		checkPart(t, "x"+c.in+"y", "x"+c.norm+"y")
		checkPart(t, "x"+c.in, "x"+c.norm)
	}
}

func TestPartOfEachByte(t *testing.T) {
	for b := range 256 {
		want := fmt.Sprintf("%%%02X", b)
		switch {
		case b == 0 || b > 127:
			want = toldBad
		case letter(b) || digit(b) || strings.Contains("-._~", one(b)):
			want = one(b)
		}
		checkPart(t, one(b), want)
		checkPart(t, "a"+one(b)+"Z", "a"+want+"Z")
	}
	checkPart(t, "", "")
	checkPart(t, "a b&c=d", "a%20b%26c%3Dd")
	checkPart(t, "javascript:x", "javascript%3Ax")
	checkPart(t, "%41%", "%2541%25")
	checkPart(t, "/?#", "%2F%3F%23")
}

// TestWritesOfChance: Part reads back as Norm, Start as no scheme but a safe one (T4), and both are made of bytes that may stand.
func TestWritesOfChance(t *testing.T) {
	part := regexp.MustCompile(`^([A-Za-z0-9._~-]|%[0-9A-F][0-9A-F])*$`)
	address := regexp.MustCompile(`^[A-Za-z0-9._~:/?#\[\]@!$&*+,;=%-]*$`)
	r := rand.New(rand.NewSource(90))
	parts := strings.Split("http|s|:|java|script|data|tel|mailto|/|\t|\n| |\x00|\xff|é|\u2028|%41|%|'|<|x|J|9|+|.|?", "|")
	for range 50000 {
		s := ""
		for range r.Intn(10) {
			s += parts[r.Intn(len(parts))]
		}
		p := Part(s)
		if back, e := neturl.PathUnescape(p); back != utf.Norm(s) || e != nil || !part.MatchString(p) {
			t.Fatalf("P9.3: Part(%q) = %q, which reads back as %q, %v", s, p, back, e)
		}
		a := Start(s)
		scheme, is := Scheme(a)
		if is && scheme != "http" && scheme != "https" && scheme != "mailto" && scheme != "tel" || !address.MatchString(a) {
			t.Fatalf("T4: Start(%q) = %q", s, a)
		}
		if scheme, is = Scheme(utf.Norm(s)); is && !strings.Contains(" http https mailto tel ", " "+scheme+" ") != (a == refused) {
			t.Fatalf("P9.2: Start(%q) = %q", s, a)
		}
	}
}

// TestCallsAtOneTime: R5.
func TestCallsAtOneTime(t *testing.T) {
	var all sync.WaitGroup
	for i := range 8 {
		all.Go(func() {
			for range 200 {
				s := fmt.Sprintf("A%d\n:é", i)
				if scheme, is := Scheme(s); scheme != fmt.Sprintf("a%d", i) || !is || Start("/"+s) != fmt.Sprintf("/A%d%%0A:%%C3%%A9", i) || Part(s) != fmt.Sprintf("A%d%%0A%%3A%%C3%%A9", i) {
					t.Errorf("R5: %q: %q, %q, %q", s, scheme, Start("/"+s), Part(s))
				}
			}
		})
	}
	all.Wait()
}

// TestLongTexts: a text of many bytes ends in a time that goes by its length.
func TestLongTexts(t *testing.T) {
	begin := time.Now()
	for _, s := range []string{"a", " ", "\t", "\xff", "é", ":", "a\n", "javascript\n"} {
		long := strings.Repeat(s, 1<<20)
		Scheme(long)
		Start(long)
		Part(long)
		Start(long + ":")
	}
	letters := strings.Repeat("aB", 1<<19)
	checkScheme(t, letters+":", strings.ToLower(letters))
	if spent := time.Since(begin); spent > 30*time.Second {
		t.Errorf("R1: texts of a million signs took %v", spent)
	}
}

func BenchmarkStart(b *testing.B) {
	s := strings.Repeat("/path?x=é&y=1", 5000)
	for b.Loop() {
		Start(s)
	}
}
