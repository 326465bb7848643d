package reply

import (
	"bufio"
	"io"
	"math"
	"net/http"
	"slices"
	"strconv"
	"strings"
	"testing"

	"docket/api"
)

// reasons are the chapter's statuses.
var reasons = map[int]string{
	200: "OK", 201: "Created", 204: "No Content", 207: "Multi-Status", 400: "Bad Request", 403: "Forbidden", 404: "Not Found",
	405: "Method Not Allowed", 409: "Conflict", 412: "Precondition Failed", 413: "Content Too Large", 414: "URI Too Long",
	415: "Unsupported Media Type", 422: "Unprocessable Content", 423: "Locked", 424: "Failed Dependency",
	431: "Request Header Fields Too Large", 500: "Internal Server Error", 501: "Not Implemented", 505: "HTTP Version Not Supported",
	507: "Insufficient Storage",
}

func statuses() []int {
	var all []int
	for status := range reasons {
		all = append(all, status)
	}
	slices.Sort(all)
	return all
}

func same(a, b api.Response) bool {
	return a.Status == b.Status && slices.Equal(a.Headers, b.Headers) && a.Body == b.Body && a.Head == b.Head && a.Close == b.Close
}

func headers(pairs ...string) []api.Header {
	var all []api.Header
	for pair := range slices.Chunk(pairs, 2) {
		all = append(all, api.Header{Name: pair[0], Value: pair[1]})
	}
	return all
}

// with is a response with one header.
func with(name, value string) api.Response {
	return api.Response{Status: 200, Headers: headers(name, value), Body: "hi"}
}

// short is a text for a test's words.
func short(s string) string {
	if len(s) > 300 {
		return strconv.Quote(s[:150]) + "..." + strconv.Quote(s[len(s)-150:])
	}
	return strconv.Quote(s)
}

// form is lines, each with its end.
func form(lines ...string) string {
	return strings.Join(lines, "\r\n") + "\r\n"
}

// wantGood wants a response to be written so, and to be read off that again, whatever stands behind it.
func wantGood(t *testing.T, r api.Response, want string) {
	t.Helper()
	got, err := Write(r)
	if !Good(r) || got != want || err != api.OK {
		t.Fatalf("Good is %v, and Write tells %s, %v, want %s", Good(r), short(got), err, short(want))
	}
	if r.Head {
		r.Body = ""
	}
	for _, behind := range []string{"", "\r", "\n", "\r\n", "x", "A: b\r\n\r\n", want, "\x00\xff", strings.Repeat("x", 70000)} {
		wantRead(t, want+behind, r, len(want))
	}
	for end := len(want) - 1; end >= max(0, len(want)-300); end-- {
		wantNone(t, want[:end], r.Head)
	}
}

func wantRead(t *testing.T, buf string, want api.Response, took int) {
	t.Helper()
	if got, n, found := Read(buf, want.Head); !same(got, want) || n != took || !found {
		t.Fatalf("Read(%s, %v) = %+v, %d, %v, want %+v, %d", short(buf), want.Head, got, n, found, want, took)
	}
}

// wantBad wants a response to be refused.
func wantBad(t *testing.T, r api.Response) {
	t.Helper()
	for _, r.Head = range []bool{false, true} {
		for _, r.Close = range []bool{false, true} {
			if got, err := Write(r); Good(r) || got != "" || err != api.ErrArg {
				t.Fatalf("of status %d, headers %.200q, and %d bytes: Good is %v, and Write tells %s, %v", r.Status, r.Headers, len(r.Body), Good(r), short(got), err)
			}
		}
	}
}

// wantNone wants no response to be read.
func wantNone(t *testing.T, buf string, head bool) {
	t.Helper()
	if got, n, found := Read(buf, head); !same(got, api.Response{}) || n != 0 || found {
		t.Fatalf("Read(%s, %v) = %+v, %d, %v, want none", short(buf), head, got, n, found)
	}
}

// The chapter's examples.
func TestExamples(t *testing.T) {
	wantGood(t, with("A", "b"), "HTTP/1.1 200 OK\r\nA: b\r\nContent-Length: 2\r\n\r\nhi")
	wantGood(t, api.Response{Status: 204, Close: true}, "HTTP/1.1 204 No Content\r\nConnection: close\r\n\r\n")
	wantBad(t, api.Response{Status: 299})
	wantBad(t, api.Response{Status: 204, Body: "x"})
	wantBad(t, with("Content-Length", "2"))
	wantBad(t, with("A", "b "))
}

// P12.1: each status has its reason, and no other number has one.
func TestReasons(t *testing.T) {
	numbers := []int{math.MinInt, math.MinInt + 200, math.MaxInt, 1<<32 + 200, -1<<32 + 200, 1<<16 + 200, 1<<8 + 200}
	for n := -1100; n < 3000; n++ {
		numbers = append(numbers, n)
	}
	for _, n := range numbers {
		r := api.Response{Status: n}
		if got := Reason(n); got != reasons[n] {
			t.Errorf("Reason(%d) = %q, want %q", n, got, reasons[n])
		}
		first := "HTTP/1.1 " + strconv.Itoa(n) + " " + reasons[n]
		switch {
		case reasons[n] == "":
			wantBad(t, r)
			wantNone(t, form(first, "Content-Length: 0", ""), false)
			wantNone(t, form(first, ""), true)
		case n == 204:
			wantGood(t, r, form(first, ""))
		default:
			wantGood(t, r, form(first, "Content-Length: 0", ""))
		}
	}
}

// P12.1, P12.3: the form of each status, with and without headers, Close, Head and a body.
func TestForms(t *testing.T) {
	lists := map[string][]api.Header{
		"":                           nil,
		"A: b\r\n":                   headers("A", "b"),
		"A: \r\nA: :\r\nb: a: b\r\n": headers("A", "", "A", ":", "b", "a: b"),
		"HTTP: /1.1 200 OK\r\n~: \xff\t \x80\r\n":                                       headers("HTTP", "/1.1 200 OK", "~", "\xff\t \x80"),
		"Content-Lengt: 1\r\nconnections: close\r\nX-Connection: Content-Length: 1\r\n": headers("Content-Lengt", "1", "connections", "close", "X-Connection", "Content-Length: 1"),
	}
	for _, status := range statuses() {
		for head, list := range lists {
			for _, body := range []string{"", "hi", "\r\n\r\n", "\x00\xff\n", form("HTTP/1.1 200 OK", "Content-Length: 0", "")} {
				if status == 204 && body != "" {
					wantBad(t, api.Response{Status: status, Headers: list, Body: body})
					continue
				}
				begin := "HTTP/1.1 " + strconv.Itoa(status) + " " + reasons[status] + "\r\n" + head
				if status != 204 {
					begin += "Content-Length: " + strconv.Itoa(len(body)) + "\r\n"
				}
				closing := begin + "Connection: close\r\n\r\n"
				wantGood(t, api.Response{Status: status, Headers: list, Body: body}, begin+"\r\n"+body)
				wantGood(t, api.Response{Status: status, Headers: list, Body: body, Close: true}, closing+body)
				wantGood(t, api.Response{Status: status, Headers: list, Body: body, Head: true}, begin+"\r\n")
				wantGood(t, api.Response{Status: status, Headers: list, Body: body, Head: true, Close: true}, closing)
			}
		}
	}
}

// P12.1, P12.2: at most 32 headers.
func TestManyHeaders(t *testing.T) {
	for _, n := range []int{1, 31, 32, 33, 34, 64, 10000} {
		r := api.Response{Status: 404, Headers: slices.Repeat(headers("A", "b"), n), Body: "x"}
		all := form("HTTP/1.1 404 Not Found") + strings.Repeat("A: b\r\n", n) + form("Content-Length: 1", "") + "x"
		if n <= api.MaxHeaders {
			wantGood(t, r, all)
			continue
		}
		wantBad(t, r)
		wantNone(t, all, false)
		wantNone(t, all, true)
	}
	// What frames the body isn't counted.
	full := api.Response{Status: 404, Headers: slices.Repeat(headers("A", "b"), 32), Body: "x", Close: true}
	wantGood(t, full, form("HTTP/1.1 404 Not Found")+strings.Repeat("A: b\r\n", 32)+form("Content-Length: 1", "Connection: close", "")+"x")
}

// P12.1, P12.2: a body has at most 65536 bytes.
func TestLongBodies(t *testing.T) {
	for _, n := range []int{1, 9, 10, 99, 100, 65535, 65536, 65537, 65538, 100000, 655360} {
		r := api.Response{Status: 200, Body: strings.Repeat("\n", n)}
		first := form("HTTP/1.1 200 OK", "Content-Length: "+strconv.Itoa(n), "")
		if n <= api.MaxText {
			wantGood(t, r, first+r.Body)
			r.Head = true
			wantGood(t, r, first)
			continue
		}
		wantBad(t, r)
		wantNone(t, first+r.Body, false)
		wantNone(t, first, true)
	}
}

// P12.2: with head any length up to 65536 is taken, written in just one way, and no byte of a body.
func TestHeadLengths(t *testing.T) {
	lengths := func(text string) string { return form("HTTP/1.1 200 OK", "Content-Length: "+text, "") }
	want := api.Response{Status: 200, Head: true}
	for n := range 65537 {
		all := lengths(strconv.Itoa(n))
		wantRead(t, all, want, len(all))
		wantRead(t, all+"HTTP/1.1", want, len(all))
	}
	for _, text := range []string{
		"65537", "65540", "70000", "100000", "-1", "-0", "+1", "01", "00", "007", "065536", "", " ", " 1", "1 ", "1_0", "0x1", "1e1", "1.0", "a", "1\t", "1,1", "\u0661",
		"4294967296", "9223372036854775807", "9223372036854775808", "18446744073709551616", "18446744073709551617", "-9223372036854775808", "-9223372036854775809", strings.Repeat("9", 300), strings.Repeat("0", 300),
	} {
		for _, head := range []bool{false, true} {
			wantNone(t, lengths(text)+strings.Repeat("x", 70000), head)
		}
	}
}

// P12.1: the names that frame the body or end the connection are refused, in any sort of letters; what is like them is not.
func TestFramingNames(t *testing.T) {
	for _, name := range []string{"content-length", "connection", "transfer-encoding"} {
		for _, sort := range []string{name, strings.ToUpper(name), strings.ToUpper(name[:1]) + name[1:], strings.ToUpper(name[:8]) + name[8:]} {
			for _, value := range []string{"", "2", "close", "chunked"} {
				wantBad(t, with(sort, value))
				wantBad(t, api.Response{Status: 204, Headers: headers("a", "b", sort, value, "c", "d")})
				wantNone(t, form("HTTP/1.1 200 OK", sort+": "+value, "A: b", "Content-Length: 2", "")+"hi", false)
				wantNone(t, form("HTTP/1.1 200 OK", "A: b", "Content-Length: 2", sort+": "+value, "A: b", "")+"hi", false)
			}
		}
		for i := range name {
			for _, like := range []string{name[:i] + name[i+1:], name[:i] + "_" + name[i:], name[:i] + "_" + name[i+1:]} {
				wantGood(t, with(like, "2"), form("HTTP/1.1 200 OK", like+": 2", "Content-Length: 2", "")+"hi")
			}
		}
	}
}

// tokenBytes are all that a token may be of.
const tokenBytes = "abcdefghijklmnopqrstuvwxyzABCDEFGHIJKLMNOPQRSTUVWXYZ0123456789!#$%&'*+-.^_`|~"

// P12.1, P12.2: each byte in each place of a header's name and value.
func TestHeaderBytes(t *testing.T) {
	hold := func(good bool, name, value string) {
		t.Helper()
		all := form("HTTP/1.1 200 OK", name+": "+value, "Content-Length: 2", "") + "hi"
		if good {
			wantGood(t, with(name, value), all)
			return
		}
		wantBad(t, with(name, value))
		wantNone(t, all, false)
		wantNone(t, all, true)
	}
	for i := range 256 {
		c := string([]byte{byte(i)})
		inName := strings.Contains(tokenBytes, c)
		for _, name := range []string{c, c + "x", "x" + c, "x" + c + "y"} {
			hold(inName, name, "v")
		}
		white := i == 9 || i == 32
		inValue := white || i >= 33 && i != 127
		hold(inValue, "x", "v"+c+"w")
		for _, value := range []string{c, c + "v", "v" + c, "v w" + c, c + "v w"} {
			hold(inValue && !white, "x", value)
		}
	}
	hold(false, "", "v")
	hold(false, "", "")
	hold(true, "x", "")
	hold(true, "x", "\u00a0")
	hold(true, strings.Repeat("x", 100000), strings.Repeat("v", 100000))
	hold(false, "x\u017f", "v")
}

// P12.1: one bad header among good ones is one too many.
func TestOneBadHeader(t *testing.T) {
	for i := range 32 {
		all := slices.Repeat(headers("A", "b"), 32)
		all[i].Value = "b\t"
		wantBad(t, api.Response{Status: 200, Headers: all})
		all[i] = api.Header{Name: "A b", Value: "b"}
		wantBad(t, api.Response{Status: 200, Headers: all})
	}
}

// P12.2: what is like a form, but isn't one.
func TestNoForm(t *testing.T) {
	for _, all := range []string{
		"", "\r\n", "\r\n\r\n", "GET / HTTP/1.1\r\n\r\n", "HTTP/1.1", "HTTP/1.1 ", "HTTP/1.1 200", "HTTP/1.1 200 OK", "HTTP/1.1 200 OK\r\n", "200 OK\r\nContent-Length: 0\r\n\r\n",
		form("HTTP/1.0 200 OK", "Content-Length: 0", ""), form("http/1.1 200 OK", "Content-Length: 0", ""), form(" HTTP/1.1 200 OK", "Content-Length: 0", ""),
		form("", "HTTP/1.1 200 OK", "Content-Length: 0", ""), form("HTTP/1.1  200 OK", "Content-Length: 0", ""), form("HTTP/1.1 200  OK", "Content-Length: 0", ""),
		form("HTTP/1.1 200", "Content-Length: 0", ""), form("HTTP/1.1 200 ", "Content-Length: 0", ""), form("HTTP/1.1 200 ok", "Content-Length: 0", ""),
		form("HTTP/1.1 200 OK ", "Content-Length: 0", ""), form("HTTP/1.1 200 Created", "Content-Length: 0", ""), form("HTTP/1.1 +200 OK", "Content-Length: 0", ""),
		form("HTTP/1.1 0200 OK", "Content-Length: 0", ""), form("HTTP/1.1 200OK", "Content-Length: 0", ""), form("HTTP/1.1 OK", "Content-Length: 0", ""),
		form("HTTP/1.1 200 OK", ""), form("HTTP/1.1 200 OK", "Content-length: 0", ""), form("HTTP/1.1 200 OK", "Content-Length:0", ""),
		form("HTTP/1.1 200 OK", "Content-Length:  0", ""), form("HTTP/1.1 200 OK", "Content-Length: 0 ", ""), form("HTTP/1.1 200 OK", "Content-Length 0", ""),
		form("HTTP/1.1 200 OK", "Content-Length: 0"), form("HTTP/1.1 200 OK", "Content-Length: 0", "Content-Length: 0", ""),
		form("HTTP/1.1 200 OK", "Content-Length: 0", "A: b", ""), form("HTTP/1.1 200 OK", "Connection: close", "Content-Length: 0", ""),
		form("HTTP/1.1 200 OK", "Content-Length: 0", "Connection: close", "A: b", ""), form("HTTP/1.1 200 OK", "Content-Length: 0", "Connection: close", "Connection: close", ""),
		form("HTTP/1.1 200 OK", "Content-Length: 0", "Connection: Close", ""), form("HTTP/1.1 200 OK", "Content-Length: 0", "connection: close", ""),
		form("HTTP/1.1 200 OK", "Content-Length: 0", "Connection:close", ""), form("HTTP/1.1 200 OK", "Content-Length: 0", "Connection: keep-alive", ""),
		form("HTTP/1.1 200 OK", "A:b", "Content-Length: 0", ""), form("HTTP/1.1 200 OK", "A:  b", "Content-Length: 0", ""), form("HTTP/1.1 200 OK", "A : b", "Content-Length: 0", ""),
		form("HTTP/1.1 200 OK", "A:", "Content-Length: 0", ""), form("HTTP/1.1 200 OK", "A", "Content-Length: 0", ""), form("HTTP/1.1 200 OK", ": b", "Content-Length: 0", ""),
		form("HTTP/1.1 200 OK", "A: b", " c", "Content-Length: 0", ""), form("HTTP/1.1 200 OK", "A:b: c", "Content-Length: 0", ""),
		form("HTTP/1.1 204 No Content", "Content-Length: 0", ""), form("HTTP/1.1 204 No Content", "Connection: close", "A: b", ""),
		form("HTTP/1.1 204 No Content", "Connection: close", "Connection: close", ""),
		"HTTP/1.1 200 OK\nContent-Length: 0\n\n", "HTTP/1.1 200 OK\r\nContent-Length: 0\r\n\n", "HTTP/1.1 200 OK\r\nContent-Length: 0\n\r\n", "HTTP/1.1 200 OK\rContent-Length: 0\r\r",
		"HTTP/1.1 200 OK\r\nA: b\nContent-Length: 0\r\n\r\n", "HTTP/1.1 200 OK\r\nA: b\r\r\nContent-Length: 0\r\n\r\n",
	} {
		for _, behind := range []string{"", "\n", strings.Repeat("x", 3000)} {
			wantNone(t, all+behind, false)
			wantNone(t, all+behind, true)
		}
	}
}

// P12.2: a body that isn't there as a whole is none; without head it is waited for, with head it isn't.
func TestBodyIsThere(t *testing.T) {
	first := form("HTTP/1.1 200 OK", "Content-Length: 5", "")
	for size := range 5 {
		wantNone(t, first+"abcde"[:size], false)
		wantRead(t, first+"abcde"[:size], api.Response{Status: 200, Head: true}, len(first))
	}
	wantRead(t, first+"abcdef", api.Response{Status: 200, Body: "abcde"}, len(first)+5)
}

// P12.3: responses that stand one behind the other are read one by one.
func TestSeveral(t *testing.T) {
	list := []api.Response{
		with("A", "b"), {Status: 204}, {Status: 200, Headers: headers("Allow", "GET"), Body: "12345", Head: true}, {Status: 404}, {Status: 204, Head: true},
		{Status: 207, Body: form("HTTP/1.1 404 Not Found", "Content-Length: 0", "")}, {Status: 400, Close: true},
	}
	var all strings.Builder
	for _, r := range list {
		text, _ := Write(r)
		all.WriteString(text)
	}
	rest := all.String()
	for i, want := range list {
		if want.Head {
			want.Body = ""
		}
		got, took, found := Read(rest, want.Head)
		if !same(got, want) || !found {
			t.Fatalf("response %d of %s is %+v, %v", i, short(rest), got, found)
		}
		rest = rest[took:]
	}
	if rest != "" {
		t.Errorf("%s is left", short(rest))
	}
}

// The form is HTTP/1.1: Go's own reader reads what Write writes.
func TestBesideAnotherReader(t *testing.T) {
	for _, status := range statuses() {
		for _, method := range []string{"GET", "HEAD"} {
			for _, ends := range []bool{false, true} {
				r := api.Response{Status: status, Headers: headers("A", "b c", "A", "", "Etag", `"1"`), Close: ends, Head: method == "HEAD"}
				if status != 204 {
					r.Body = "some\r\n\r\nbytes"
				}
				text, _ := Write(r)
				in := bufio.NewReader(strings.NewReader(text + "behind"))
				got, err := http.ReadResponse(in, &http.Request{Method: method})
				if err != nil {
					t.Fatalf("%q: %v", text, err)
				}
				body, _ := io.ReadAll(got.Body)
				behind, _ := io.ReadAll(in)
				want := r.Body
				if r.Head {
					want = ""
				}
				if got.Status != strconv.Itoa(status)+" "+reasons[status] || string(body) != want || string(behind) != "behind" || got.Close != ends ||
					!slices.Equal(got.Header["A"], []string{"b c", ""}) || got.Header.Get("Etag") != `"1"` {
					t.Errorf("%q is read as %+v with the body %q, and %q is left", text, got, body, behind)
				}
			}
		}
	}
}

// P1 (rule 1): long texts take no longer than their length asks for.
func TestLongTexts(t *testing.T) {
	const size = 1 << 24
	for _, all := range []string{
		strings.Repeat("\r\n", size/2), strings.Repeat("A: b\r\n", size/6), strings.Repeat(": ", size/2), strings.Repeat("1", size), "HTTP/1.1 " + strings.Repeat("2", size) + "\r\n",
		"HTTP/1.1 200 OK\r\n" + strings.Repeat("A: b\r\n", size/6), "HTTP/1.1 200 OK\r\n" + strings.Repeat("A", size), "HTTP/1.1 200 OK\r\nA: " + strings.Repeat(" ", size) + "\r\n",
		"HTTP/1.1 200 OK\r\nContent-Length: " + strings.Repeat("1", size) + "\r\n\r\n", "HTTP/1.1 204 No Content\r\n" + strings.Repeat("Connection: close\r\n", size/19),
	} {
		wantNone(t, all, false)
		wantNone(t, all, true)
	}
	long := strings.Repeat("v", size)
	all, _ := Write(with(long, long))
	wantRead(t, all, with(long, long), len(all))
	wantBad(t, with(long+" ", "b"))
	wantBad(t, with("a", long+" "))
	wantBad(t, api.Response{Status: 200, Body: long})
	wantBad(t, api.Response{Status: 200, Headers: make([]api.Header, 1<<20)})
}
