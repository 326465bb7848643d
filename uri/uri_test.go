package uri

import (
	"fmt"
	"slices"
	"strings"
	"sync"
	"testing"
	"unsafe"

	"docket/api"
)

// wantPath holds what Parse answers against a path and a form.
func wantPath(t *testing.T, target string, dir bool, want ...string) {
	t.Helper()
	path, gotDir, err := Parse(target)
	if !slices.Equal(path, want) || gotDir != dir || err != api.OK {
		t.Errorf("Parse(%.80q) = %q, %v, error %d, want %q, %v", target, path, gotDir, err, want, dir)
	}
}

// refuse wants Parse to answer an error, and zero values beside it.
func refuse(t *testing.T, want api.Errno, targets ...string) {
	t.Helper()
	for _, target := range targets {
		path, dir, err := Parse(target)
		if len(path) != 0 || dir || err != want {
			t.Errorf("Parse(%.80q) = %q, %v, error %d, want error %d", target, path, dir, err, want)
		}
	}
}

func wantGood(t *testing.T, want bool, path ...string) {
	t.Helper()
	if Good(path) != want {
		t.Errorf("Good(%.80q) = %v", path, !want)
	}
	if got := Text(path); (got != "") != want {
		t.Errorf("Text(%.80q) = %.80q", path, got)
	}
}

func wantText(t *testing.T, want string, path ...string) {
	t.Helper()
	if got := Text(path); got != want {
		t.Errorf("Text(%.80q) = %.80q, want %.80q", path, got, want)
	}
}

// same is a list of one text, so many times.
func same(text string, times int) []string {
	return slices.Repeat([]string{text}, times)
}

func TestExamples(t *testing.T) {
	wantPath(t, "/a/b%20c/", true, "a", "b c")
	wantPath(t, "/", true)
	wantPath(t, "//a/./x/../b", false, "a", "b")
	wantPath(t, "http://host:80/a", false, "a")
	wantPath(t, "http://host", true)
	refuse(t, api.ErrPath, "a", "/a?b", "/..", "/%zz", "/%2F", "/%ff", "http:///a", "")
	wantText(t, "/a/b%20c/%25", "a", "b c", "%")
	wantText(t, "/")
	if !Within([]string{"a", "b"}, []string{"a"}) || Within([]string{"ab"}, []string{"a"}) || !Within([]string{"a"}, nil) {
		t.Errorf("Within")
	}
}

// P9.1: what a host stands ahead of. Just these seven bytes begin one, and something must stand behind them.
func TestHost(t *testing.T) {
	wantPath(t, "http://h/", true)
	wantPath(t, "http://h/a/b", false, "a", "b")
	wantPath(t, "http://h//a", false, "a")
	wantPath(t, "http://h/http://h/a", false, "http:", "h", "a")
	wantPath(t, "http://user:word@h:80/%20", false, " ")
	wantPath(t, "http://.", true)
	wantPath(t, "http://..", true)
	wantPath(t, "http://%zz", true)
	wantPath(t, "http://%2f", true)
	wantPath(t, "http://~!", true)
	wantPath(t, "/http://h/a", false, "http:", "h", "a")
	refuse(t, api.ErrPath, "http://", "http:///", "http:////a", "http:/", "http:/h/a", "http", "http:")
	refuse(t, api.ErrPath, "HTTP://h/a", "Http://h/a", "httP://h", "https://h/a", "ftp://h/a", " http://h/a", "//http://?")
	refuse(t, api.ErrPath, "http://h/..", "http://h/%", "http://h/a?b", "http://h/a#b", "http://h/ a")
	refuse(t, api.ErrLong, "http://h/"+strings.Repeat("x", 65), "http://h"+strings.Repeat("/x", 13))
}

// P9.1: with no slash behind it, a host is held against the bytes of a target; with one, only what begins there.
func TestHostBytes(t *testing.T) {
	for _, c := range []string{"?", "#", " ", "\x00", "\t", "\r", "\x7f", "\x80", "\xff", "ä"} {
		refuse(t, api.ErrPath, "http://h"+c, "http://"+c, "http://"+c+"h", "http://h/"+c)
		wantPath(t, "http://h"+c+"/a", false, "a")
		wantPath(t, "http://"+c+"/a", false, "a")
	}
}

// P9.1: each byte there is, as it is in a target, and written with % and two digits of any sort.
func TestEachByte(t *testing.T) {
	for b := range 256 {
		c := string([]byte{byte(b)})
		switch {
		case c == "/":
			wantPath(t, "/x/y", false, "x", "y")
		case c == "." || c == "%":
			wantPath(t, "/x"+c+"25", false, strings.ReplaceAll("x"+c+"25", "%25", "%"))
		case b < 33 || b > 126 || c == "?" || c == "#":
			refuse(t, api.ErrPath, "/x"+c+"y", c+"/x", "/x/"+c, c, "/"+c)
		default:
			wantPath(t, "/x"+c+"y", false, "x"+c+"y")
			wantPath(t, "/"+c, false, c)
			refuse(t, api.ErrPath, c+"/x", c)
		}
		for _, digits := range []string{"%%%02x", "%%%02X"} {
			coded := fmt.Sprintf(digits, b)
			if b == 0 || c == "/" || b > 127 {
				refuse(t, api.ErrPath, "/x"+coded, "/"+coded, "/"+coded+"x", "/"+coded+"/..", "/y/"+coded+"/")
				continue
			}
			wantPath(t, "/x"+coded, false, "x"+c)
			wantPath(t, "/"+coded+"x", false, c+"x")
			refuse(t, api.ErrPath, coded, coded+"/x")
		}
	}
}

// P9.1: a % has two digits of base 16 behind it, in its own piece.
func TestDigits(t *testing.T) {
	wantPath(t, "/%41%62%5a%5A%6a%6A", false, "AbZZjj")
	wantPath(t, "/%25", false, "%")
	wantPath(t, "/%2541", false, "%41")
	wantPath(t, "/%25%32%66", false, "%2f")
	wantPath(t, "/%411", false, "A1")
	wantPath(t, "/%3F%23%7f%01", false, "?#\x7f\x01")
	wantPath(t, "/+", false, "+")
	refuse(t, api.ErrPath, "/%", "/%4", "/a%", "/a%4", "/%/41", "/%4/1", "/%41%", "/%41%4", "/%%41", "/%4%41", "/a/%/", "/%%")
	refuse(t, api.ErrPath, "/%+4", "/%-4", "/%4_", "/%_4", "/%0x", "/%x4", "/%4g", "/%g4", "/%4G", "/%:0", "/%0:", "/%@1", "/%`1", "/%1@", "/%u0041")
	for b := 33; b < 127; b++ {
		c := string([]byte{byte(b)})
		if !strings.Contains("0123456789abcdefABCDEF", c) {
			refuse(t, api.ErrPath, "/%4"+c, "/%"+c+"1")
		}
	}
}

// badLetters are no good UTF-8, in one way each.
var badLetters = []string{
	"\x80", "\xbf", "\xc3", "\xc3a", "\xc3\xc3", "\xe2\x82", "\xe2\x82a", "\xf0\x9f\x98", "\xff", "\xfe", // cut off, or begun in the middle
	"\xc0\x80", "\xc0\xaf", "\xc1\xbf", "\xe0\x80\x80", "\xe0\x80\xaf", "\xe0\x9f\xbf", "\xf0\x80\x80\xaf", "\xf0\x8f\xbf\xbf", // longer than need be
	"\xed\xa0\x80", "\xed\xad\xbf", "\xed\xb0\x80", "\xed\xbf\xbf", "\xed\xa0\xbd\xed\xb8\x80", // surrogates
	"\xf4\x90\x80\x80", "\xf5\x80\x80\x80", "\xf7\xbf\xbf\xbf", "\xf8\x88\x80\x80\x80", "\xfc\x84\x80\x80\x80\x80", // above the last letter
}

// goodLetters lie at the edges of what is good UTF-8.
var goodLetters = []string{
	"\x01", "\x7f", "\u0080", "ä", "\u07ff", "\u0800", "\ud7ff", "\ue000", "\ufeff", "\ufffd", "\uffff", "\U00010000", "😀", "\U0010ffff",
}

// coded writes each byte of a text as % and two digits.
func coded(s string) string {
	var all strings.Builder
	for _, c := range []byte(s) {
		fmt.Fprintf(&all, "%%%02x", c)
	}
	return all.String()
}

// P9.1, P9.2: good UTF-8, and what isn't.
func TestLetters(t *testing.T) {
	for _, s := range badLetters {
		refuse(t, api.ErrPath, "/"+coded(s), "/x"+coded(s)+"x", "/x/"+coded(s)+"/..", "/"+s)
		wantGood(t, false, s)
		wantGood(t, false, "x"+s+"x")
		wantGood(t, false, "x", s)
	}
	for _, s := range goodLetters {
		wantPath(t, "/"+coded(s), false, s)
		wantPath(t, "/x"+coded(s)+"x", false, "x"+s+"x")
		wantGood(t, true, s)
		wantText(t, "/"+strings.ToUpper(coded(s)), s)
	}
	refuse(t, api.ErrPath, "/ä", "/%c3/%a4", "/%c3a%a4")
}

// P9.1: pieces that add nothing, and those that take one away, as they stand and as they are said.
func TestSteps(t *testing.T) {
	wantPath(t, "//", true)
	wantPath(t, "/////", true)
	wantPath(t, "/a", false, "a")
	wantPath(t, "/a/", true, "a")
	wantPath(t, "/a//", true, "a")
	wantPath(t, "/a//b", false, "a", "b")
	wantPath(t, "/.", true)
	wantPath(t, "/a/.", true, "a")
	wantPath(t, "/./a", false, "a")
	wantPath(t, "/a/..", true)
	wantPath(t, "/a/../", true)
	wantPath(t, "/a/../b", false, "b")
	wantPath(t, "/a/b/../..", true)
	wantPath(t, "/a/b/..", true, "a")
	wantPath(t, "/a/b/../../c", false, "c")
	wantPath(t, "/a/%2e", true, "a")
	wantPath(t, "/a/%2E/b", false, "a", "b")
	wantPath(t, "/a/b/%2e%2E", true, "a")
	wantPath(t, "/a/b/.%2e/c", false, "a", "c")
	wantPath(t, "/a/b/%2e.", true, "a")
	wantPath(t, "/...", false, "...")
	wantPath(t, "/.a/..a/a./a../.%20", false, ".a", "..a", "a.", "a..", ". ")
	refuse(t, api.ErrPath, "/../a", "/./..", "//..", "/a/../..", "/a/../../b", "/%2e%2e", "/%2e.", "/a/b/../../..", "..", ".", "./a")
}

// P9.1: the lengths of pieces and of paths, at their limits and one past them.
func TestLengths(t *testing.T) {
	long := strings.Repeat("x", 64)
	wantPath(t, "/"+long, false, long)
	wantPath(t, "/"+coded(long)+"/", true, long)
	wantPath(t, "/"+strings.Repeat("%c3%a4", 32), false, strings.Repeat("ä", 32))
	wantPath(t, "/"+strings.Repeat("%2e", 64), false, strings.Repeat(".", 64))
	refuse(t, api.ErrLong, "/"+long+"x", "/"+long+"%41", "/"+long+"x/..", "/a/"+long+"x/", "/"+strings.Repeat("%c3%a4", 32)+"a")
	refuse(t, api.ErrLong, "/"+strings.Repeat("%c3%a4", 33), "/"+strings.Repeat(".", 65), "/"+strings.Repeat("x", 100000))

	most := strings.Repeat("/x", 12)
	wantPath(t, most, false, same("x", 12)...)
	wantPath(t, most+"/", true, same("x", 12)...)
	wantPath(t, most+"//./", true, same("x", 12)...)
	wantPath(t, most+"/y/..", true, same("x", 12)...)
	wantPath(t, most+"/../y", false, append(same("x", 11), "y")...)
	wantPath(t, most+"/y/../../z", false, append(same("x", 11), "z")...)
	wantPath(t, strings.Repeat("/x", 1000)+strings.Repeat("/..", 1000), true)
	wantPath(t, strings.Repeat("/x", 1000)+strings.Repeat("/..", 988), true, same("x", 12)...)
	wantPath(t, strings.Repeat("/x", 20)+strings.Repeat("/..", 15)+strings.Repeat("/y", 7), false, append(same("x", 5), same("y", 7)...)...)
	wantPath(t, strings.Repeat("/"+long, 12), false, same(long, 12)...)
	wantPath(t, strings.Repeat("/", 100000)+"a", false, "a")
	refuse(t, api.ErrLong, most+"/y", most+"/y/", most+"/y/./", strings.Repeat("/x", 100000))
	refuse(t, api.ErrLong, strings.Repeat("/x", 1000)+strings.Repeat("/..", 987))
	refuse(t, api.ErrPath, strings.Repeat("/x", 1000)+strings.Repeat("/..", 1001))
}

// P9.1: which of several errors is told: a byte ahead of all pieces, then the first piece that is wrong, then the number of segments.
func TestWhichError(t *testing.T) {
	long, many := strings.Repeat("x", 65), strings.Repeat("/x", 13)
	refuse(t, api.ErrPath, "/"+long+"?", "/"+long+" ", "/"+long+"#", long, "http:///"+long, many+"?", many+"\x80")
	refuse(t, api.ErrPath, "/"+long+"%", "/"+long+"%4g", "/"+long+"%ff", "/"+long+"%00", "/"+long+"%2f", "/%zz"+long)
	refuse(t, api.ErrPath, "/%zz/"+long, "/../"+long, "/%00/"+long, "/a/../../"+long)
	refuse(t, api.ErrLong, "/"+long+"/%zz", "/"+long+"/%2f", "/"+long+"/../../..", "/a/"+long+"/%ff")
	refuse(t, api.ErrPath, "//%zz", "/a/./%2f", "/a/../..")
	refuse(t, api.ErrLong, "/a/../"+long, "//"+long, many+"/./")
	refuse(t, api.ErrPath, many+"/%zz", many+"/%00", many+strings.Repeat("/..", 14))
	refuse(t, api.ErrLong, many+"/"+long, many)
}

// P9.2: what a path may be.
func TestGood(t *testing.T) {
	long := strings.Repeat("x", 64)
	wantGood(t, true)
	wantGood(t, true, "a")
	wantGood(t, true, long, "...", ".a", "a.", " ", "%", "?", "#", "\\", "\n", "a:b")
	wantGood(t, true, "%2f", "%2e%2e")
	wantGood(t, true, same(long, 12)...)
	wantGood(t, false, same(long, 13)...)
	wantGood(t, false, same("x", 13)...)
	wantGood(t, false, same("x", 100000)...)
	wantGood(t, true, strings.Repeat("ä", 32))
	for _, s := range []string{"", ".", "..", "/", "a/b", "/a", "a/", "\x00", "a\x00b", long + "x", strings.Repeat("ä", 32) + "x", strings.Repeat("x", 100000)} {
		wantGood(t, false, s)
		wantGood(t, false, s, "a")
		wantGood(t, false, "a", s)
		wantGood(t, false, "a", s, "b")
		wantGood(t, false, append(same("a", 11), s)...)
	}
	if !Good(nil) || !Good([]string{}) || Text(nil) != "/" || Text([]string{}) != "/" {
		t.Errorf("the root is a path")
	}
}

// P9.2: which bytes stand as they are, and how each other one is written.
func TestText(t *testing.T) {
	const asTheyAre = "abcdefghijklmnopqrstuvwxyzABCDEFGHIJKLMNOPQRSTUVWXYZ0123456789-._~"
	for b := 1; b < 128; b++ {
		c := string([]byte{byte(b)})
		switch {
		case c == "/":
		case strings.Contains(asTheyAre, c):
			wantText(t, "/x"+c+"y", "x"+c+"y")
		default:
			wantText(t, fmt.Sprintf("/x%%%02Xy", b), "x"+c+"y")
		}
	}
	wantText(t, "/%C3%A4/%E2%82%AC/%F0%9F%98%80", "ä", "€", "😀")
	wantText(t, "/%7F%01%0A%20", "\x7f\x01\n ")
	wantText(t, "/.../.a/a.", "...", ".a", "a.")
	wantText(t, "/%252F/%3F", "%2F", "?")
	wantText(t, strings.Repeat("/"+strings.Repeat("%C3%BF", 32), 12), same(strings.Repeat("ÿ", 32), 12)...)
}

// P9.2: one list within another, paths or not.
func TestWithin(t *testing.T) {
	lists := [][]string{
		nil, {}, {"a"}, {"a", "b"}, {"a", "b", "c"}, {"ab"}, {"a", "c"}, {"b"}, {"b", "a"}, {"A"}, {""}, {"", ""}, {"a", ""}, {"/"}, {"..", "a"}, {"\xff"}, same("x", 13), same("x", 14),
	}
	for _, a := range lists {
		for _, b := range lists {
			want := strings.HasPrefix(words(a), words(b))
			if got := Within(a, b); got != want {
				t.Errorf("Within(%q, %q) = %v", a, b, got)
			}
		}
	}
	if !Within([]string{"a", "b"}, []string{"a", "b"}) || Within([]string{"a"}, []string{"a", "b"}) || Within([]string{"x", "a"}, []string{"a"}) {
		t.Errorf("Within")
	}
}

// words is a list in one text, in which each of its texts has an end.
func words(list []string) string {
	all := ""
	for _, s := range list {
		all += fmt.Sprintf("%q,", s)
	}
	return all
}

// P9.3: the path behind its form, and the form behind what Parse answers.
func TestThereAndBack(t *testing.T) {
	long := strings.Repeat("ä", 32)
	for _, path := range [][]string{nil, {"a"}, {"a", "b c", "%"}, {"...", "%2e%2e", "%2F"}, {"?", "#", "\x01", "\x7f"}, same(long, 12), goodLetters[:12], goodLetters[2:]} {
		wantPath(t, Text(path), len(path) == 0, path...)
	}
	for _, target := range []string{"/", "/a/", "/a/./b/../", "http://h", "http://h/%7e%7E/x%2by", "/%25%32%66", "/!$&'()*+,;=:@/", "/" + coded(long)} {
		path, _, err := Parse(target)
		if err != api.OK {
			t.Errorf("Parse(%q): error %d", target, err)
		}
		wantPath(t, Text(path), len(path) == 0, path...)
	}
}

// P1: what is handed in stays as it is, its spare room included.
func TestArgumentsStay(t *testing.T) {
	room := []string{"a", "b c", "d", "e"}
	path := room[:2]
	Good(path)
	Text(path)
	Within(path, path[:1])
	Within(path[:1], path)
	if !slices.Equal(room, []string{"a", "b c", "d", "e"}) {
		t.Errorf("changed to %q", room)
	}
}

// P1: an answer is new memory: it shares none with the target, with another answer, or with what is kept.
func TestNewMemory(t *testing.T) {
	target := strings.Clone("/abc/def%20x/abc")
	from := uintptr(unsafe.Pointer(unsafe.StringData(target)))
	first, _, _ := Parse(target)
	for _, s := range first {
		if at := uintptr(unsafe.Pointer(unsafe.StringData(s))); at >= from && at < from+uintptr(len(target)) {
			t.Errorf("%q lies in the target", s)
		}
	}
	second, _, _ := Parse(target)
	first[0] = "changed"
	first = append(first[:1], "changed")
	if !slices.Equal(second, []string{"abc", "def x", "abc"}) || first[1] != "changed" {
		t.Errorf("the answers share memory: %q", second)
	}
	wantPath(t, target, false, "abc", "def x", "abc")
}

// P1: nothing is kept from call to call, so calls at one time don't know of each other.
func TestAtOneTime(t *testing.T) {
	var all sync.WaitGroup
	for i := range 8 {
		all.Go(func() {
			for n := range 200 {
				name := fmt.Sprintf("%d ä %d", i, n)
				path, dir, err := Parse("/x/../" + coded(name) + "/")
				if !slices.Equal(path, []string{name}) || !dir || err != api.OK || !Good(path) || !Within(path, path) {
					t.Errorf("Parse = %q, %v, error %d", path, dir, err)
				}
				wantPath(t, Text(path), false, name)
			}
		})
	}
	all.Wait()
}
