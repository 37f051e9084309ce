package words

import (
	"math/big"
	"math/rand"
	"regexp"
	"strings"
	"testing"

	"stole/api"
)

// A second reading of chapter 14, by patterns, that Words is held against.
const aName = `[A-Za-z_][A-Za-z_0-9]{0,31}`

var (
	between   = regexp.MustCompile(`^[\t\n ]+`)
	behind    = regexp.MustCompile(`^(?:\z|[\t\n |])`)
	aText     = regexp.MustCompile(`^"((?:[^"\\]|\\["\\nt])*)"`)
	aNumber   = regexp.MustCompile(`^-?[0-9]+`)
	aField    = regexp.MustCompile(`^\.(` + aName + `(?:\.` + aName + `){0,7})?`)
	aVariable = regexp.MustCompile(`^\$(` + aName + `)((?:\.` + aName + `){0,8})`)
	onlyName  = regexp.MustCompile(`^` + aName)
)

// namesOf gives the names that a text tells with a `.` between each two.
func namesOf(s string) []string {
	return strings.FieldsFunc(s, func(r rune) bool { return r == '.' })
}

// long gives the word other than WordPipe that s begins with, and its length; 0, if there is none.
func long(s string) (api.Word, int, api.Errno) {
	if strings.HasPrefix(s, ":=") {
		return api.Word{Kind: api.WordSet}, 2, api.OK
	}
	if m := aText.FindStringSubmatch(s); m != nil {
		meant := strings.NewReplacer(`\"`, `"`, `\\`, `\`, `\n`, "\n", `\t`, "\t").Replace(m[1])
		return api.Word{Kind: api.WordText, Text: meant}, len(m[0]), api.OK
	}
	if digits := aNumber.FindString(s); digits != "" {
		n, _ := new(big.Int).SetString(digits, 10)
		if n.CmpAbs(big.NewInt(api.MaxInt)) > 0 {
			return api.Word{}, 0, api.ErrWordsInt
		}
		return api.Word{Kind: api.WordInt, Int: int(n.Int64())}, len(digits), api.OK
	}
	if m := aField.FindStringSubmatch(s); m != nil {
		return api.Word{Kind: api.WordField, Path: namesOf(m[1])}, len(m[0]), api.OK
	}
	if m := aVariable.FindStringSubmatch(s); m != nil {
		return api.Word{Kind: api.WordVar, Text: m[1], Path: namesOf(m[2])}, len(m[0]), api.OK
	}
	if m := onlyName.FindString(s); m != "" {
		return api.Word{Kind: api.WordName, Text: m}, len(m), api.OK
	}
	switch s[0] {
	case '"':
		return api.Word{}, 0, api.ErrWordsText
	case '-':
		return api.Word{}, 0, api.ErrWordsInt
	}
	return api.Word{}, 0, api.ErrWordsForm
}

// wanted gives what Words is to answer.
func wanted(action string) ([]api.Word, api.Errno) {
	var out []api.Word
	for rest := action; ; {
		rest = rest[len(between.FindString(rest)):]
		if rest == "" {
			return out, api.OK
		}
		if rest[0] == '|' {
			out = append(out, api.Word{Kind: api.WordPipe})
			rest = rest[1:]
			continue
		}
		w, n, e := long(rest)
		if e != api.OK {
			return nil, e
		}
		out = append(out, w)
		rest = rest[n:]
		if !behind.MatchString(rest) {
			return nil, api.ErrWordsForm
		}
	}
}

// hold holds Words of an action against the second reading, and gives the error.
func hold(t *testing.T, action string) api.Errno {
	t.Helper()
	got, e := Words(action)
	want, err := wanted(action)
	if e != err || !same(got, want) {
		t.Fatalf("P14.1: Words(%.300q) = %s, %d, want %s, %d", action, shown(got), e, shown(want), err)
	}
	return e
}

// TestAllShortActions: each short row of the signs that mean something.
func TestAllShortActions(t *testing.T) {
	var all func(action string, signs []string, left int)
	all = func(action string, signs []string, left int) {
		hold(t, action)
		if left == 0 {
			return
		}
		for _, sign := range signs {
			all(action+sign, signs, left-1)
		}
	}
	all("", []string{"a", "_", "1", "0", ".", "$", "-", ":", "=", "|", `"`, `\`, "n", " ", "\n", "\r", "\xff", "\x00"}, 4)
	all("", []string{"a", "1", ".", "$", "|", " "}, 7)
	all("$", []string{"a.", "b", ".", " "}, 8)
	all("", []string{":=", ":", "=", "|", " ", "$a"}, 6)
	all(`"`, []string{`\`, `"`, "n", "t", "r", " ", "|"}, 6)
	all("900719925474099", []string{"0", "1", "2", "9", "-", " ", "a"}, 4)
	all("", []string{"nnnnnnnnnnnnnnnn", "n", ".", "$", "9"}, 6)
}

// chance gives a random action of so many parts.
func chance(r *rand.Rand, parts int) string {
	signs := []string{"a", "b9", "_", " ", "\t", "\n", "|", ".", ".a", ".a.b", "$", "$a", "$a.b", "0", "12", "-", "-3", "9007199254740991", "9007199254740992", `"`, `""`, `"a b"`, `\`, `"\n"`, `"\q"`, ":=", ":", "=", "?", "é", "\f", "\r", "\xff", "\x00", strings.Repeat("n", api.MaxName-1), strings.Repeat(".c", api.MaxPath-1)}
	var out strings.Builder
	for range parts {
		out.WriteString(signs[r.Intn(len(signs))])
	}
	return out.String()
}

// whole gives a random action of words with blanks or a `|` behind them, or with nothing, now and then.
func whole(r *rand.Rand, words int) string {
	signs := []string{"a", "_b9", strings.Repeat("N", api.MaxName), ".", ".a", "._.B", "$a", "$_.b", "$a" + strings.Repeat(".c", api.MaxPath), strings.Repeat(".d", api.MaxPath), "0", "-0", "007", "-12", "9007199254740991", "-9007199254740991", `""`, `"a |"`, `"\"\\\n\t"`, "\"\xff\x00\"", ":="}
	gaps := []string{" ", "\t", "\n", " \n\t ", "|", " |", "| ", " | ", "||"}
	var out strings.Builder
	for range words {
		out.WriteString(signs[r.Intn(len(signs))])
		if r.Intn(100) > 0 {
			out.WriteString(gaps[r.Intn(len(gaps))])
		}
	}
	return out.String()
}

func TestActionsOfChance(t *testing.T) {
	r := rand.New(rand.NewSource(14))
	seen := [2]map[api.Errno]int{{}, {}}
	for range 60000 {
		for i, action := range []string{chance(r, 1+r.Intn(6)), whole(r, 1+r.Intn(20))} {
			seen[i][hold(t, action)]++
		}
	}
	for i, kinds := range seen {
		for _, e := range []api.Errno{api.OK, api.ErrWordsForm} {
			if kinds[e] < 1000 {
				t.Errorf("%d: %d actions of %d", i, kinds[e], e)
			}
		}
	}
	if seen[0][api.ErrWordsText] < 1000 || seen[0][api.ErrWordsInt] < 1000 {
		t.Errorf("%v", seen[0])
	}
}

func FuzzWords(f *testing.F) {
	for _, s := range []string{"", "a .b.c $d.e | f", "$a := -12", `"\"\\\n\t"`, "9007199254740992", ".", "||", `"\q`, "- 1"} {
		f.Add(s)
	}
	f.Fuzz(func(t *testing.T, s string) { hold(t, s) })
}
