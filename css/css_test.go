package css

import (
	"math/rand"
	"strings"
	"sync"
	"testing"
	"time"
	"unicode"
	"unicode/utf8"
	"unsafe"

	"stole/api"
)

// none is what stands for a text that may not be in a style.
const none = "ZgotmplZ"

// The bytes that stay, and those below 128 that do not; each of the two rows is written out, so that neither is what the other leaves.
const (
	stay = "ABCDEFGHIJKLMNOPQRSTUVWXYZabcdefghijklmnopqrstuvwxyz0123456789 #%.,-"
	fall = "\x00\x01\x02\x03\x04\x05\x06\x07\x08\x09\x0a\x0b\x0c\x0d\x0e\x0f\x10\x11\x12\x13\x14\x15\x16\x17\x18\x19\x1a\x1b\x1c\x1d\x1e\x1f!\"$&'()*+/:;<=>?@[\\]^_`{|}~\x7f"
)

// one gives the text of one byte.
func one(b int) string { return string([]byte{byte(b)}) }

// stays tells whether a text with this byte may stay as it is.
func stays(b int) bool { return strings.Contains(stay, one(b)) }

// check holds Filter of s against what is wanted, and what it gives against T5.
func check(t *testing.T, s, want string) {
	t.Helper()
	got := Filter(s)
	if got != want {
		t.Fatalf("P12.1: Filter(%.200q) = %.200q, want %.200q", s, got, want)
	}
	checkSafe(t, s, got)
}

func checkSafe(t *testing.T, s, got string) {
	t.Helper()
	if strings.Trim(got, stay) != "" {
		t.Fatalf("T5: Filter(%.200q) = %.200q: a byte of no safe alphabet", s, got)
	}
	if again := Filter(got); again != got {
		t.Fatalf("T5: Filter(%.200q) = %.200q, and of that %.200q", s, got, again)
	}
}

func keep(t *testing.T, s string) {
	t.Helper()
	check(t, s, s)
}

func refuse(t *testing.T, s string) {
	t.Helper()
	check(t, s, none)
}

func TestTheRowsHaveEachByteOnce(t *testing.T) {
	all := stay + fall
	if len(all) != 128 {
		t.Fatalf("%d bytes", len(all))
	}
	for b := range 128 {
		if strings.Count(all, one(b)) != 1 {
			t.Errorf("byte %d: %d times", b, strings.Count(all, one(b)))
		}
	}
}

func TestTextsThatStay(t *testing.T) {
	for _, s := range []string{
		"", " ", "  ", "a", "Z", "0", "#", "%", ".", ",", "-", "--", "red", "#fF00aa", "1.5em", "100%", "-3px", "a, b, c", " 1px  2px ", "#%.,-", stay, none, none + none, "#" + none, "zgotmplz", "expression", "url", "e1-2",
	} {
		keep(t, s)
	}
}

func TestTextsThatDoNotStay(t *testing.T) {
	for _, s := range []string{
		"a;b", "color:red", "url(x)", "expression(1)", "</style>", "<!--", "-->", "/*", "*/", "a/b", `\61`, `"`, "'", "`", "a_b", "a+b", "a\nb", "a\tb", "@import", "!important", "{", "}", "&lt;", "(", ")", "a=b", "$", "?", "[", "]", "^", "|", "~", none + ";", ";" + none, fall,
	} {
		refuse(t, s)
	}
}

// TestEachByte: each byte alone, at a text's begin, in its middle and at its end, and beside each other byte.
func TestEachByte(t *testing.T) {
	for b := range 256 {
		is := refuse
		if stays(b) {
			is = keep
		}
		s := one(b)
		for _, whole := range []string{s, s + "a", "a" + s + "Z", "a" + s, s + s, " " + s + " ", s + none, none + s, stay + s, s + stay, stay + s + stay} {
			is(t, whole)
		}
		for c := range 256 {
			if stays(b) && stays(c) {
				keep(t, s+one(c))
			} else {
				refuse(t, s+one(c))
			}
		}
	}
}

// TestEachPlace: one byte at each place of a text, and the bytes around it that stay.
func TestEachPlace(t *testing.T) {
	for n := range 80 {
		for i := range n {
			head, tail := strings.Repeat("a", i), strings.Repeat("9", n-i-1)
			for b := range 256 {
				want := none
				if stays(b) {
					want = head + one(b) + tail
				}
				check(t, head+one(b)+tail, want)
			}
		}
	}
}

// TestBlanks: 32 is the only one; the others look like it, or are of ends of lines.
func TestBlanks(t *testing.T) {
	keep(t, " ")
	keep(t, strings.Repeat(" ", 1000))
	keep(t, " a  b ")
	for _, s := range []string{"\t", "\n", "\v", "\f", "\r", "\r\n", "\x00", "\x1c", "\x1f", "\x7f", "\x85", "\xa0", "\u0085", "\u00A0", "\u1680", "\u2000", "\u2003", "\u200B", "\u2028", "\u2029", "\u202F", "\u205F", "\u3000", "\uFEFF"} {
		refuse(t, s)
		refuse(t, " "+s)
		refuse(t, s+" ")
		refuse(t, "a"+s+"b")
	}
	for r := rune(0); r <= utf8.MaxRune; r++ {
		if unicode.IsSpace(r) && r != ' ' {
			refuse(t, "1px"+string(r)+"2px")
		}
	}
}

// TestEachSign: no sign of several bytes stays, letters and digits of other scripts neither.
func TestEachSign(t *testing.T) {
	for r := rune(128); r <= utf8.MaxRune; r++ {
		if utf8.ValidRune(r) {
			refuse(t, string(r))
		}
	}
	for _, s := range []string{"é", "ß", "İ", "ı", "ſ", "\u212A", "\u0391", "\u0430", "\uFF21", "\uFF41", "\uFF10", "\u0660", "\uFF0C", "\uFF05", "\uFF03", "\u2010", "\u2013", "\u2212", "\uFFFD", "\uFFFF", "\U0001D400", "\U0001F600", "\U0010FFFF"} {
		refuse(t, s)
		refuse(t, s+"red")
		refuse(t, "re"+s+"d")
		refuse(t, "red"+s)
	}
}

func TestBytesThatAreNoText(t *testing.T) {
	for _, s := range []string{
		"\x00", "\x80", "\xbf", "\xc1", "\xe1", "\xff", "\xc0\x80", "\xc1\xa1", "\xc2", "\xe2", "\xe2\x80", "\xe0\x81\xa1", "\xed\xa0\x80", "\xf0\x80\x81\xa1", "\xf0\x9f\x98", "\xf4\x90\x80\x80", "\xf5\x80\x80\x80",
	} {
		refuse(t, s)
		refuse(t, s+"a")
		refuse(t, "a"+s+"a")
		refuse(t, "a"+s)
	}
}

// TestLongTexts: a text is looked through to its last byte, and beyond what a source may have.
func TestLongTexts(t *testing.T) {
	for _, n := range []int{255, 256, 257, 4096, api.MaxText - 1, api.MaxText, api.MaxText + 1, 1 << 20} {
		for _, c := range []string{"a", "9", " ", "#", "-"} {
			s := strings.Repeat(c, n)
			keep(t, s)
			for _, wrong := range []string{";", "\x00", "\n", "_", "\xff", "é"} {
				refuse(t, s+wrong)
				refuse(t, wrong+s)
				refuse(t, s[:n/2]+wrong+s[n/2:])
			}
		}
	}
}

// chance gives a random text of at most so many bytes, half of them of bytes that stay only.
func chance(r *rand.Rand, most int) string {
	s := make([]byte, r.Intn(most+1))
	wild := r.Intn(2) == 0
	for i := range s {
		s[i] = stay[r.Intn(len(stay))]
		if wild && r.Intn(1+most/2) == 0 {
			s[i] = byte(r.Intn(256))
		}
	}
	return string(s)
}

// wanted gives what Filter is to give of s, told byte by byte from the rows.
func wanted(s string) string {
	for i := range len(s) {
		if !stays(int(s[i])) {
			return none
		}
	}
	return s
}

func TestTextsOfChance(t *testing.T) {
	r := rand.New(rand.NewSource(12))
	kept, refused := 0, 0
	for range 50000 {
		s := chance(r, 20)
		want := wanted(s)
		check(t, s, want)
		if want == s {
			kept++
		} else {
			refused++
		}
	}
	if kept < 10000 || refused < 5000 {
		t.Errorf("%d kept, %d refused", kept, refused)
	}
	for range 200 {
		s := chance(r, 5000)
		check(t, s, wanted(s))
	}
}

// TestWhatIsAnsweredStandsAlone: R4, of a text that stays as it is.
func TestWhatIsAnsweredStandsAlone(t *testing.T) {
	for _, s := range []string{"a", "red", none, strings.Repeat("x", 1000)} {
		a, b := Filter(s), Filter(s)
		if a != b || unsafe.StringData(a) == unsafe.StringData(s) || unsafe.StringData(a) == unsafe.StringData(b) {
			t.Errorf("R4: %.40q", s)
		}
	}
	room := []byte("red blue")
	s := unsafe.String(&room[0], 3)
	got := Filter(s)
	if string(room) != "red blue" {
		t.Errorf("R4: %q", room)
	}
	room[0] = ';'
	if got != "red" {
		t.Errorf("R4: %q", got)
	}
}

// TestCallsAtOneTime: R5, whatever was asked ahead.
func TestCallsAtOneTime(t *testing.T) {
	r := rand.New(rand.NewSource(13))
	var texts, wants []string
	for range 200 {
		s := chance(r, 50)
		texts, wants = append(texts, s), append(wants, wanted(s))
	}
	var all sync.WaitGroup
	for worker := range 8 {
		all.Go(func() {
			for i := range 2000 {
				n := (i*7 + worker*31) % len(texts)
				if got := Filter(texts[n]); got != wants[n] {
					t.Errorf("R5: %q: %q, want %q", texts[n], got, wants[n])
				}
			}
		})
	}
	all.Wait()
}

// TestEnds: R1, of texts far longer than a source may be.
func TestEnds(t *testing.T) {
	begin := time.Now()
	for _, c := range []string{"a", " ", "-", ";", "\xff", "\U0001F600"} {
		s, want := strings.Repeat(c, 1<<24), none
		if wanted(c) == c {
			want = s
		}
		if got := Filter(s); got != want {
			t.Errorf("R1: %q: %d bytes", c, len(got))
		}
	}
	if spent := time.Since(begin); spent > 20*time.Second {
		t.Errorf("R1: %v", spent)
	}
}

func FuzzFilter(f *testing.F) {
	for _, s := range []string{"", stay, fall, none, "\xff", "é", "a;b"} {
		f.Add(s)
	}
	f.Fuzz(func(t *testing.T, s string) { check(t, s, wanted(s)) })
}

func BenchmarkFilter(b *testing.B) {
	s := strings.Repeat("1px #0a, ", 1000)
	for b.Loop() {
		Filter(s)
	}
}
