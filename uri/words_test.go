package uri

import (
	"regexp"
	"slices"
	"strconv"
	"strings"
	"testing"

	"docket/api"
)

// dice throws the same numbers in each run.
type dice uint64

func (x *dice) below(n int) int {
	*x = *x*6364136223846793005 + 1442695040888963407
	return int(uint64(*x) >> 33 % uint64(n))
}

// parts are what targets are laid of: much that means something, and some that is wrong.
var parts = []string{
	"/", "/", "/", "/", "/", "/", "a", "b", "a", "b", ".", "..", "/./", "/../", "//", "/..", "%2e", "%2E", "%41", "%20", "%25", "%c3%a4", "%C3%A4", "%e2%82%ac", "%f0%9f%98%80",
	"~", "!", "+", ":", "%7f", "%01", "/x/x/x/x/x/x", "xxxxxxxxxxxxxxxxxxxxxxxxxxxxxxxxxxxxxxxxxxxxxxxxxxxxxxxxxxxx",
}

var wrongParts = []string{"%", "%4", "%zz", "%+1", "?", "#", " ", "\x00", "\x7f", "ä", "\xff", "%00", "%2f", "%2F", "%ff", "%c3", "%a4", "%ed%a0%80", "%c0%af", "%f4%90%80%80"}

var heads = []string{"", "/", "/", "/", "/", "/", "/", "http://", "http://h", "http://h/", "http:///", "http://h?/", "HTTP://h/", "https://h/", "x"}

func (x *dice) target() string {
	all := heads[x.below(len(heads))]
	wrong := x.below(3) == 0
	for range x.below(20) {
		if wrong && x.below(12) == 0 {
			all += wrongParts[x.below(len(wrongParts))]
			continue
		}
		all += parts[x.below(len(parts))]
	}
	return all
}

// Go's regular expressions take text that isn't good UTF-8, too: each bad byte is then one letter above 126.
var (
	hostOnly  = regexp.MustCompile(`^http://[!-"$->@-~]+$`)
	hostPath  = regexp.MustCompile(`(?s)^http://[^/]+(/.*)$`)
	allowed   = regexp.MustCompile(`^/[!-"$->@-~]*$`)
	wrongCode = regexp.MustCompile(`%($|.$|[^0-9a-fA-F]|.[^0-9a-fA-F])`)
	code      = regexp.MustCompile(`%..`)
)

// toldParse is the chapter's words, taken as they stand.
func toldParse(target string) ([]string, bool, api.Errno) {
	if strings.HasPrefix(target, "http://") {
		if hostOnly.MatchString(target) && !strings.Contains(target[7:], "/") {
			target = "/"
		} else if m := hostPath.FindStringSubmatch(target); m != nil {
			target = m[1]
		} else {
			return nil, false, api.ErrPath
		}
	}
	if !allowed.MatchString(target) {
		return nil, false, api.ErrPath
	}
	path, last := []string{}, ""
	for _, piece := range strings.Split(target, "/")[1:] {
		last = code.ReplaceAllStringFunc(piece, func(s string) string {
			n, _ := strconv.ParseUint(s[1:], 16, 8)
			return string([]byte{byte(n)})
		})
		switch {
		case wrongCode.MatchString(piece) || strings.Contains(last, "\x00") || strings.Contains(last, "/") || string([]rune(last)) != last:
			return nil, false, api.ErrPath
		case len(last) > 64:
			return nil, false, api.ErrLong
		case last == ".." && len(path) == 0:
			return nil, false, api.ErrPath
		case last == "..":
			path = path[:len(path)-1]
		case last != "" && last != ".":
			path = append(path, last)
		}
	}
	if len(path) > 12 {
		return nil, false, api.ErrLong
	}
	return path, last == "" || last == "." || last == "..", api.OK
}

// holdTarget holds Parse against the words, and what it answers against P9.3 and what it means to be a path.
func holdTarget(t *testing.T, target string) api.Errno {
	t.Helper()
	path, dir, err := Parse(target)
	want, wantDir, wantErr := toldParse(target)
	if !slices.Equal(path, want) || dir != wantDir || err != wantErr {
		t.Fatalf("Parse(%q) = %q, %v, error %d, want %q, %v, error %d", target, path, dir, err, want, wantDir, wantErr)
	}
	if err != api.OK {
		return err
	}
	if !Good(path) {
		t.Fatalf("Parse(%q) = %q, which is no path", target, path)
	}
	again, _, err := Parse(Text(path))
	if !slices.Equal(again, path) || err != api.OK {
		t.Fatalf("Parse(%q) = %q, error %d, want %q", Text(path), again, err, path)
	}
	return api.OK
}

// P9.1, P9.3: many targets, held against the words.
func TestAgainstTheWords(t *testing.T) {
	x := dice(1)
	answers := map[api.Errno]int{}
	for range 100000 {
		answers[holdTarget(t, x.target())]++
	}
	for _, err := range []api.Errno{api.OK, api.ErrPath, api.ErrLong} {
		if answers[err] < 1000 {
			t.Errorf("error %d came %d times", err, answers[err])
		}
	}
}

// P9.1, P9.3: every target of at most five of some bytes behind a slash.
func TestEachShortTarget(t *testing.T) {
	targets := []string{"/"}
	for range 5 {
		var longer []string
		for _, target := range targets {
			holdTarget(t, target)
			for _, c := range "/.%2eaF" {
				longer = append(longer, target+string(c))
			}
		}
		targets = longer
	}
	for _, target := range targets {
		holdTarget(t, target)
		holdTarget(t, "http:/"+target)
	}
}

// segmentParts are what segments are laid of.
var segmentParts = []string{"a", "b", ".", ".", "..", "%", "%2f", " ", "?", "ä", "€", "😀", "\x7f", "\x01", "xxxxxxxxxxxxxxxxxxxxxxxxxxxxxx", "a", "a", "~"}

var wrongSegmentParts = []string{"/", "\x00", "\xff", "\xc3", "\xed\xa0\x80", "\xc0\x80"}

func (x *dice) list() []string {
	wrong := x.below(2) == 0
	list := make([]string, x.below(14))
	for i := range list {
		for range 1 + x.below(5) {
			list[i] += segmentParts[x.below(len(segmentParts))]
		}
		if wrong && x.below(20) == 0 {
			list[i] += wrongSegmentParts[x.below(len(wrongSegmentParts))]
		}
		if wrong && x.below(40) == 0 {
			list[i] = ""
		}
	}
	return list
}

func toldGood(list []string) bool {
	for _, s := range list {
		if len(s) < 1 || len(s) > 64 || string([]rune(s)) != s || strings.Contains(s, "\x00") || strings.Contains(s, "/") || s == "." || s == ".." {
			return false
		}
	}
	return len(list) <= 12
}

var written = regexp.MustCompile(`^(/|(/([a-zA-Z0-9._~-]|%[0-9A-F][0-9A-F])+)+)$`)

// P9.2, P9.3: many lists, held against the words.
func TestListsAgainstTheWords(t *testing.T) {
	x := dice(2)
	good := 0
	for range 50000 {
		list := x.list()
		want := toldGood(list)
		if Good(list) != want {
			t.Fatalf("Good(%q) = %v", list, !want)
		}
		text := Text(list)
		if !want {
			if text != "" {
				t.Fatalf("Text(%q) = %q", list, text)
			}
			continue
		}
		good++
		if !written.MatchString(text) {
			t.Fatalf("Text(%q) = %q", list, text)
		}
		if path, dir, err := Parse(text); !slices.Equal(path, list) || dir != (len(list) == 0) || err != api.OK {
			t.Fatalf("Parse(%q) = %q, %v, error %d", text, path, dir, err)
		}
	}
	if good < 1000 {
		t.Errorf("%d lists were paths", good)
	}
}

// P9.1: whatever bytes a target has, Parse ends.
func FuzzParse(f *testing.F) {
	x := dice(3)
	for range 200 {
		f.Add(x.target())
	}
	f.Fuzz(func(t *testing.T, target string) { holdTarget(t, target) })
}
