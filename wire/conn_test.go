package wire

import (
	"slices"
	"strings"
	"testing"

	"docket/api"
)

// answer is what Next told.
type answer struct {
	request api.Request
	status  int
}

func sameAnswers(a, b []answer) bool {
	return slices.EqualFunc(a, b, func(x, y answer) bool { return same(x.request, y.request) && x.status == y.status })
}

// ask tells all that Next answers now.
func ask(t *testing.T, c *Conn) []answer {
	t.Helper()
	var all []answer
	for {
		was := c.Closed()
		request, status, there := c.Next()
		if !there {
			if !same(request, api.Request{}) || status != 0 || c.Closed() != was {
				t.Fatalf("beside false: %+v, %d, and Closed is %v", request, status, c.Closed())
			}
			return all
		}
		if was || c.Closed() != (status != 0 || request.Close) || status != 0 && !same(request, api.Request{}) {
			t.Fatalf("%+v, %d: Closed was %v, and is %v", request, status, was, c.Closed())
		}
		all = append(all, answer{request, status})
	}
}

// inPieces tells what Next answers of all pieces, one behind the other; it is asked behind each piece for which that is so.
func inPieces(t *testing.T, pieces []string, asked func(i int) bool) []answer {
	t.Helper()
	var c Conn
	var all []answer
	for i, piece := range pieces {
		c.Feed(piece)
		if asked(i) {
			all = append(all, ask(t, &c)...)
		}
	}
	return append(all, ask(t, &c)...)
}

func always(int) bool { return true }

func never(int) bool { return false }

// several are bytes of several requests, and of what ends them.
func several() []string {
	chunked := get("transfer-encoding: chunked")
	return []string{
		"",
		get() + get("content-length: 3") + "abc" + get("x: y") + "\r\n\r\nP",
		"\r\n" + chunked + "3;x\r\nabc\r\n1\r\n\r\r\n0\r\nt\r\n\r\n" + get("connection: close") + get(),
		chunked + "0\r\n\r\n\r\n" + get() + "x\r\n" + get(),
		chunked + "2\r\nabcd\r\n" + get(),
		chunked + "2\r\nab\r!",
		get("content-length: 0") + "\n" + get(),
		get("connection: close", "content-length: 2") + "abcdef",
		get() + "GET /a HTTP/1.1\r\n\r\n",
		"\r\n\r\n\r\n" + get() + strings.Repeat("x", 1030),
		get() + "GET / HTTP/1.1\r\nx:" + strings.Repeat("x", 1025) + "\r\n",
	}
}

// P11.4: bytes in all pieces of one size, and in any two pieces, whenever Next is asked.
func TestPieces(t *testing.T) {
	for _, all := range several() {
		want := inPieces(t, []string{all}, never)
		for size := 1; size <= len(all); size++ {
			var pieces []string
			for piece := range slices.Chunk([]byte(all), size) {
				pieces = append(pieces, string(piece), "")
			}
			for _, asked := range []func(int) bool{always, never, func(i int) bool { return i%3 == 0 }} {
				if got := inPieces(t, pieces, asked); !sameAnswers(got, want) {
					t.Fatalf("%s in pieces of %d: %+v, want %+v", short(all), size, got, want)
				}
			}
			if got := inPieces(t, []string{all[:size], all[size:]}, always); !sameAnswers(got, want) {
				t.Fatalf("%s in pieces of %d and the rest: %+v, want %+v", short(all), size, got, want)
			}
		}
	}
}

// P11.3: Next tells what Read tells, of what isn't taken.
func TestNextAndRead(t *testing.T) {
	for _, all := range several() {
		var want []answer
		for rest := all; ; {
			request, took, status := Read(rest)
			if status == -1 {
				break
			}
			want = append(want, answer{request, status})
			if status != 0 || request.Close {
				break
			}
			rest = rest[took:]
		}
		if got := inPieces(t, []string{all}, never); !sameAnswers(got, want) {
			t.Errorf("%s: %+v, want %+v", short(all), got, want)
		}
	}
}

// P11.3: a request is told as soon as its last byte is there, and no sooner.
func TestNextAtOnce(t *testing.T) {
	all := "\r\n" + get("transfer-encoding: chunked") + "3\r\nabc\r\n0\r\n\r\n"
	var c Conn
	for i := range all {
		if got := ask(t, &c); len(got) != 0 {
			t.Fatalf("behind %q: %+v", all[:i], got)
		}
		c.Feed(all[i : i+1])
	}
	if got := ask(t, &c); len(got) != 1 || got[0].request.Body != "abc" {
		t.Errorf("behind %q: %+v", all, got)
	}
}

// P11.3: a connection is closed as soon as Next has told that it ends, and no sooner; then nothing comes any more.
func TestClosed(t *testing.T) {
	for end, status := range map[string]int{get("connection: close"): 0, "x\r\n": 400, "GET / HTTP/2.0\r\n": 505} {
		var c Conn
		if c.Closed() {
			t.Error("the zero value is closed")
		}
		c.Feed(get() + end + get())
		if _, _, there := c.Next(); !there || c.Closed() {
			t.Errorf("ahead of %q: Next tells %v, Closed %v", end, there, c.Closed())
		}
		if _, is, there := c.Next(); is != status || !there || !c.Closed() {
			t.Errorf("%q: status %d, %v, Closed %v", end, is, there, c.Closed())
		}
		for range 3 {
			if got := ask(t, &c); len(got) != 0 || !c.Closed() {
				t.Errorf("behind %q: %+v, Closed %v", end, got, c.Closed())
			}
			c.Feed(get())
		}
		if len(c.rest) != 0 || cap(c.rest) != 0 || c.next.request.Headers != nil {
			t.Errorf("behind %q it keeps %+v", end, c)
		}
	}
}

// P1 (rule 1): a nil connection is closed.
func TestNilConn(t *testing.T) {
	var c *Conn
	c.Feed(get())
	if request, status, there := c.Next(); !same(request, api.Request{}) || status != 0 || there || !c.Closed() {
		t.Errorf("a nil Conn tells %+v, %d, %v, Closed %v", request, status, there, c.Closed())
	}
}

// Connections know nothing of each other.
func TestTwoConns(t *testing.T) {
	var a, b Conn
	a.Feed("GET /a HTTP/1.1\r\nHo")
	b.Feed("(")
	ask(t, &a)
	b.Feed("\r\n")
	if got := ask(t, &b); len(got) != 1 || got[0].status != 400 || a.Closed() {
		t.Errorf("the one tells %+v, the other is closed: %v", got, a.Closed())
	}
	a.Feed("st: h\r\n\r\n")
	if got := ask(t, &a); len(got) != 1 || !same(got[0].request, plain()) {
		t.Errorf("the other one tells %+v", got)
	}
}

// Many requests in one piece, and many bytes one by one, take no longer than their number asks for.
func TestManyBytes(t *testing.T) {
	const many = 100000
	var c Conn
	c.Feed(strings.Repeat(get(), many))
	if got := ask(t, &c); len(got) != many || cap(c.rest) != 0 {
		t.Errorf("%d requests, and %d bytes kept", len(got), cap(c.rest))
	}
	all := strings.Repeat(get("content-length: 8000")+strings.Repeat("x", 8000), 20)
	for _, asked := range []func(int) bool{always, never} {
		if got := inPieces(t, strings.Split(all, ""), asked); len(got) != 20 {
			t.Errorf("byte by byte %d requests", len(got))
		}
	}
	chunks := get("transfer-encoding: chunked") + strings.Repeat("1;"+strings.Repeat("x", 100)+"\r\nb\r\n", 8192) + "0\r\n\r\n"
	if got := inPieces(t, strings.SplitAfter(chunks, "x"), always); len(got) != 1 || len(got[0].request.Body) != 8192 {
		t.Errorf("chunks in pieces: %d answers", len(got))
	}
}
