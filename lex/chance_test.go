package lex

import (
	"math/rand"
	"regexp"
	"slices"
	"strings"
	"testing"

	"stole/api"
)

// A second reading of chapter 13, by patterns, that Split is held against.
var (
	begins   = regexp.MustCompile(`^\{\{(-[\t\n ])?[\t\n ]*`)
	remark   = regexp.MustCompile(`^/\*(?s:.*?)\*/`)
	endsMark = regexp.MustCompile(`^(?:[\t\n ]*|[\t\n ]+(-))\}\}`)
	body     = regexp.MustCompile(`^((?:[^"]|"(?:[^"\\]|\\(?s:.))*")*?)\}\}`)
	lastMark = regexp.MustCompile(`[\t\n ]-$`)
	head     = regexp.MustCompile(`^[\t\n ]+`)
	tail     = regexp.MustCompile(`[\t\n ]+$`)
)

// bytewise gives s with a sign for each byte, since a pattern goes by signs.
func bytewise(s string) string {
	runes := make([]rune, len(s))
	for i := range runes {
		runes[i] = rune(s[i])
	}
	return string(runes)
}

// back gives the bytes that bytewise made signs of.
func back(s string) string {
	var out []byte
	for _, r := range s {
		out = append(out, byte(r))
	}
	return string(out)
}

// cut gives s without what a pattern finds in it.
func cut(s string, of *regexp.Regexp) string { return of.ReplaceAllString(s, "") }

// wanted gives what Split is to answer.
func wanted(source string) ([]api.Piece, api.Errno) {
	if len(source) > api.MaxText {
		return nil, api.ErrLexLong
	}
	rest, at, trim := bytewise(turned(source)), 0, false
	pass := func(n int) string {
		read := rest[:n]
		at += len(back(read))
		rest = rest[n:]
		return read
	}
	var out []api.Piece
	for {
		stop := strings.Index(rest, "{{")
		if stop < 0 {
			stop = len(rest)
		}
		piece := api.Piece{At: at}
		text := pass(stop)
		found := begins.FindStringSubmatch(rest)
		if trim {
			text = cut(text, head)
		}
		if found != nil && found[1] != "" {
			text = cut(text, tail)
		}
		if piece.Text = back(text); text != "" {
			out = append(out, piece)
		}
		if found == nil {
			return limited(out)
		}
		piece = api.Piece{Action: true, At: at}
		pass(len(found[0]))
		if strings.HasPrefix(rest, "/*") {
			pass(len(remark.FindString(rest)))
			end := endsMark.FindStringSubmatch(rest)
			if end == nil {
				return nil, api.ErrLexOpen
			}
			trim = end[1] != ""
			pass(len(end[0]))
			continue
		}
		whole := body.FindStringSubmatch(rest)
		if whole == nil {
			return nil, api.ErrLexOpen
		}
		pass(len(whole[0]))
		trim = lastMark.MatchString(whole[1])
		piece.Text = back(cut(cut(cut(whole[1], lastMark), head), tail))
		out = append(out, piece)
	}
}

func limited(pieces []api.Piece) ([]api.Piece, api.Errno) {
	isLong := func(p api.Piece) bool { return p.Action && len(p.Text) > api.MaxAction }
	switch {
	case slices.ContainsFunc(pieces, isLong):
		return nil, api.ErrLexLong
	case len(pieces) > api.MaxPieces:
		return nil, api.ErrLexMany
	}
	return pieces, api.OK
}

// hold holds Split of a source against the second reading, and gives the error.
func hold(t *testing.T, source string) api.Errno {
	t.Helper()
	got, e := Split(source)
	want, err := wanted(source)
	if e != err || !slices.Equal(got, want) {
		t.Fatalf("P13.1: Split(%.300q) = %s, %d, want %s, %d", source, shown(got), e, shown(want), err)
	}
	return e
}

// TestAllShortSources: each short row of the signs that mean something.
func TestAllShortSources(t *testing.T) {
	var all func(source string, signs []string, left int)
	all = func(source string, signs []string, left int) {
		hold(t, source)
		if left == 0 {
			return
		}
		for _, sign := range signs {
			all(source+sign, signs, left-1)
		}
	}
	all("", []string{"{", "}", "-", " ", "a"}, 6)
	all("a {{", []string{"}}", "-", " ", "/*", "*/", "\"", "\\", "b"}, 5)
	all(" {{- ", []string{"}}", "-", " ", "{{", "\"", "\\"}, 6)
	all("{{/*", []string{"}}", "-", "\n", "*/", "{{", "\r"}, 6)
}

// chance gives a random source of so many parts.
func chance(r *rand.Rand, parts int) string {
	signs := []string{"a", " ", "\t", "\n", "\r", "\r\n", "-", "{", "}", "{{", "}}", "{{- ", " -}}", "{{-", "-}}", "/*", "*/", "\"", "\\", "\\\"", "{{/*", "*/}}", "é", "\f", "\xff", "\x00", "{{ a }}", "{{- b -}}", "{{/* c */}}", "{{- /* d */ -}}", "{{\"}}\"}}"}
	var out strings.Builder
	for range parts {
		out.WriteString(signs[r.Intn(len(signs))])
	}
	return out.String()
}

// whole gives a random source of texts, actions and comments that have their ends.
func whole(r *rand.Rand, parts int) string {
	signs := []string{"a", " ", "\n", "\r\n", "}}", "{{ a }}", "{{- b}}", "{{c -}}", "{{- d -}}", "{{-e-}}", "{{/* c */}}", "{{- /* d */}}", "{{/* } }} \" */ -}}", "{{- /**/ -}}", "{{\"}}\\\"\"}}", "{{- -}}", "{{}}", "{{ }}", "\xff", " \t"}
	var out strings.Builder
	for range parts {
		out.WriteString(signs[r.Intn(len(signs))])
	}
	return out.String()
}

func TestSourcesOfChance(t *testing.T) {
	r := rand.New(rand.NewSource(13))
	seen := [2]int{}
	for range 40000 {
		for i, source := range []string{chance(r, r.Intn(20)), whole(r, r.Intn(20))} {
			if hold(t, source) == api.OK {
				seen[i]++
			}
		}
	}
	if seen[0] < 2000 || seen[0] > 38000 || seen[1] != 40000 {
		t.Errorf("%d and %d sources of 40000 are split", seen[0], seen[1])
	}
	many := 0
	for range 100 {
		hold(t, chance(r, 2000))
		if hold(t, whole(r, 1000+r.Intn(1500))) == api.ErrLexMany {
			many++
		}
	}
	if many == 0 || many == 100 {
		t.Errorf("%d sources of 100 have too many pieces", many)
	}
}

func FuzzSplit(f *testing.F) {
	for _, s := range []string{"", "a {{- b -}} c", "{{/* c */}}", "{{\"}}\\\"\"}}", "\r\n{{a}}\r", "{{- -}}", "{{", "{{/*"} {
		f.Add(s)
	}
	f.Fuzz(func(t *testing.T, s string) { hold(t, s) })
}
