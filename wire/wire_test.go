package wire

import (
	"slices"
	"strconv"
	"strings"
	"testing"

	"docket/api"
)

const host = "Host: h\r\n"

// lines lays lines, each with its CR and LF.
func lines(all ...string) string {
	return strings.Join(all, "\r\n") + "\r\n"
}

// get is a request with these headers beside host.
func get(headers ...string) string {
	return "GET /a HTTP/1.1\r\n" + host + strings.Join(headers, "\r\n") + strings.Repeat("\r\n", min(len(headers), 1)) + "\r\n"
}

func same(a, b api.Request) bool {
	return a.Method == b.Method && a.Target == b.Target && slices.Equal(a.Headers, b.Headers) && a.Body == b.Body && a.Close == b.Close
}

// short is a text for a test's words.
func short(s string) string {
	if len(s) > 200 {
		return strconv.Quote(s[:100]) + "..." + strconv.Quote(s[len(s)-100:])
	}
	return strconv.Quote(s)
}

// wantRead wants a request to be read off its bytes, whatever stands behind them.
func wantRead(t *testing.T, buf string, want api.Request) {
	t.Helper()
	for _, behind := range []string{"", "\r", "\n", "GET ", get(), "\x00\xff", strings.Repeat("x", 3000)} {
		got, took, status := Read(buf + behind)
		if !same(got, want) || took != len(buf) || status != 0 {
			t.Fatalf("Read(%s and %s) = %+v, %d, %d, want %+v and %d", short(buf), short(behind), got, took, status, want, len(buf))
		}
	}
}

// wantStatus wants a status as soon as these bytes are there, and none of the bytes behind them to change it.
func wantStatus(t *testing.T, buf string, want int) {
	t.Helper()
	for _, behind := range []string{"", "\r\n\r\n", get(), strings.Repeat("x", 3000)} {
		got, took, status := Read(buf + behind)
		if !same(got, api.Request{}) || took != 0 || status != want {
			t.Fatalf("Read(%s and %s) = %+v, %d, %d, want %d", short(buf), short(behind), got, took, status, want)
		}
	}
	if len(buf) > 0 {
		wantMore(t, buf[:len(buf)-1])
	}
}

func wantMore(t *testing.T, buf string) {
	t.Helper()
	if got, took, status := Read(buf); !same(got, api.Request{}) || took != 0 || status != -1 {
		t.Fatalf("Read(%s) = %+v, %d, %d, want -1", short(buf), got, took, status)
	}
}

func headers(pairs ...string) []api.Header {
	var all []api.Header
	for pair := range slices.Chunk(pairs, 2) {
		all = append(all, api.Header{Name: pair[0], Value: pair[1]})
	}
	return all
}

func plain(pairs ...string) api.Request {
	return api.Request{Method: "GET", Target: "/a", Headers: headers(append([]string{"host", "h"}, pairs...)...)}
}

// The chapter's examples.
func TestExamples(t *testing.T) {
	wantRead(t, "GET /a HTTP/1.1\r\nHost: h\r\n\r\n", plain())
	wantStatus(t, "GET /a\r\n", 400)
	wantStatus(t, "GET /a HTTP/1.0\r\n", 505)
	wantStatus(t, " GET /a HTTP/1.1\r\n", 400)
	wantStatus(t, "GET /a HTTP/1.1\r\n\r\n", 400)
	wantStatus(t, "GET /a HTTP/1.1\r\nHost : h\r\n", 400)
	wantStatus(t, get("Content-Length: 9000"), 413)
	wantStatus(t, get("Content-Length: +5"), 400)
	wantStatus(t, get("Transfer-Encoding: gzip"), 501)
	wantStatus(t, get("Transfer-Encoding: chunked", "Content-Length: 5"), 400)
	wantStatus(t, "GET /a HTTP/1.1\n", 400)
	wantStatus(t, ("GET /" + strings.Repeat("a", 1100))[:1026], 414)
	chunked := plain("transfer-encoding", "chunked")
	chunked.Body = "abc"
	wantRead(t, get("Transfer-Encoding: chunked")+"3;x\r\nabc\r\n0\r\n\r\n", chunked)
	closing := plain("connection", "keep-alive, Close")
	closing.Close = true
	wantRead(t, get("Connection: keep-alive, Close"), closing)
}

// P11.1: a line has at most 1024 bytes ahead of its end.
func TestLongLines(t *testing.T) {
	longest := "/" + strings.Repeat("a", 1024-len("GET / HTTP/1.1"))
	want := plain()
	want.Target = longest
	wantRead(t, "GET "+longest+" HTTP/1.1\r\n"+host+"\r\n", want)
	wantStatus(t, "GET "+longest+"a HTTP/1.1\r", 414)
	wantStatus(t, "\r\n\r\n"+strings.Repeat("\x00", 1026), 414)
	wantStatus(t, strings.Repeat("a", 1024)+"\r\r", 414)
	wantStatus(t, strings.Repeat("a", 1025)+"\n", 400)
	wantMore(t, strings.Repeat("a", 1025))

	value := strings.Repeat("v", 1024-len("x:"))
	wantRead(t, get("x:"+value), plain("x", value))
	wantStatus(t, "GET /a HTTP/1.1\r\n"+"x:"+value+"v\r", 431)
	wantStatus(t, "GET /a HTTP/1.1\r\n"+strings.Repeat("\x00", 1026), 431)
	wantStatus(t, "GET /a HTTP/1.1\r\nx:"+value+"\n", 400)

	chunked := plain("transfer-encoding", "chunked")
	chunked.Body = "b"
	head := get("transfer-encoding: chunked")
	wantRead(t, head+"1;"+strings.Repeat("x", 1022)+"\r\nb\r\n0\r\n"+strings.Repeat("t", 1024)+"\r\n\r\n", chunked)
	wantStatus(t, head+"1;"+strings.Repeat("x", 1023)+"\r", 400)
	wantStatus(t, head+"1\r\nb\r\n0;"+strings.Repeat("x", 1024), 400)
	wantStatus(t, head+"0\r\n"+strings.Repeat("t", 1026), 431)
	wantStatus(t, head+"0\r\na\r\n"+strings.Repeat("t", 1025)+"\r", 431)
}

// P11.1: step 1, the request line.
func TestRequestLine(t *testing.T) {
	rest := "\r\n" + host + "\r\n"
	wantRead(t, "\r\n\r\n\r\nGET /a HTTP/1.1"+rest, plain())
	wantRead(t, strings.Repeat("\r\n", 5000)+"GET /a HTTP/1.1"+rest, plain())
	for _, more := range []string{"", "\r", "\r\n", "\r\n\r", "G", "GET /a HTTP/1.1", "GET /a HTTP/1.1\r", "GET /a HTTP/1.1\r\n", "\x00\r \r"} {
		wantMore(t, more)
	}
	want := plain()
	want.Method, want.Target = "aZ09!#$%&'*+-.^_`|~", "!~\"<>?#%"
	wantRead(t, want.Method+" "+want.Target+" HTTP/1.1"+rest, want)
	for c := range 256 {
		method, target := "M"+string([]byte{byte(c)}), "t"+string([]byte{byte(c)})
		line := method + " " + target + " HTTP/1.1"
		switch {
		case c == '\n':
		case strings.IndexByte("!#$%&'*+-.^_`|~", byte(c)) >= 0 || 'a' <= c|32 && c|32 <= 'z' || '0' <= c && c <= '9':
			want.Method, want.Target = method, target
			wantRead(t, line+rest, want)
		case 33 <= c && c <= 126:
			want.Method, want.Target = "M", target
			wantRead(t, "M "+target+" HTTP/1.1"+rest, want)
			wantStatus(t, line+"\r\n", 400)
		default:
			wantStatus(t, method+" t HTTP/1.1\r\n", 400)
			wantStatus(t, "M "+target+" HTTP/1.1\r\n", 400)
		}
	}
	for _, line := range []string{
		"\n", "a\n", "\r\r\n", "GET /a HTTP/1.1\r\r\n", "GET /a\r HTTP/1.1\r\n", " \r\n", "GET\r\n", "GET \r\n", "GET  HTTP/1.1\r\n", "GET  /a HTTP/1.1\r\n", "GET /a  HTTP/1.1\r\n",
		"GET /a HTTP/1.1 \r\n", "GET /a b HTTP/1.1\r\n", " /a HTTP/1.1\r\n", "GET\t/a HTTP/1.1\r\n", "GET /a\tHTTP/1.1\r\n", "GET /a http/1.1\r\n", "GET /a HTTP/1.\r\n", "GET /a HTTP/1\r\n", "GET /a HTTP/11\r\n",
		"GET /a HTTP/1,1\r\n", "GET /a HTTP/1.11\r\n", "GET /a HTTP/11.1\r\n", "GET /a HTTP/a.1\r\n", "GET /a HTTP/1.a\r\n", "GET /a HTTP/:.1\r\n", "GET /a HTTPS/1.1\r\n", "GET /a HTTP/\r\n", "GET /a \r\n", "(G) /a HTTP/1.1\r\n",
	} {
		wantStatus(t, line, 400)
	}
	for _, version := range []string{"0.9", "1.0", "1.2", "2.0", "2.1", "0.1", "9.9"} {
		wantStatus(t, "GET /a HTTP/"+version+"\r\n", 505)
	}
	wantStatus(t, "G@T /a HTTP/1.0\r\n", 400)
}

// P11.1: step 2, each header's line.
func TestHeaders(t *testing.T) {
	for line, want := range map[string]api.Header{
		"X:": {Name: "x"}, "X: \t ": {Name: "x"}, "x:y": {Name: "x", Value: "y"}, "aZ09!#$%&'*+-.^_`|~:1": {Name: "az09!#$%&'*+-.^_`|~", Value: "1"},
		"x:\t y \t z \t": {Name: "x", Value: "y \t z"}, "x::y": {Name: "x", Value: ":y"}, "x:Ä\xff\x80~": {Name: "x", Value: "Ä\xff\x80~"}, "x:\u00a0": {Name: "x", Value: "\u00a0"},
	} {
		wantRead(t, get(line), plain(want.Name, want.Value))
	}
	begun := "GET /a HTTP/1.1\r\n" + host
	for c := range 256 {
		x := string([]byte{byte(c)})
		switch {
		case c == '\n':
			continue
		case c == '\t' || c == ' ' || 33 <= c && c != 127:
			wantRead(t, get("x:a"+x+"b"), plain("x", "a"+x+"b"))
		default:
			wantStatus(t, begun+"x:a"+x+"b\r\n", 400)
		}
		if strings.IndexByte("!#$%&'*+-.^_`|~:", byte(c)) < 0 && !('a' <= c|32 && c|32 <= 'z') && !('0' <= c && c <= '9') {
			wantStatus(t, begun+"x"+x+":a\r\n", 400)
			wantStatus(t, begun+x+"x:a\r\n", 400)
		}
	}
	for _, line := range []string{"\n", "x:y\n", "x:\ry\r\n", "x:y\r\r\n", "\r\r\n", ":\r\n", ":y\r\n", "x\r\n", "x y\r\n", " x:y\r\n", "\tx:y\r\n", "x :y\r\n", " \r\n", "é:y\r\n"} {
		wantStatus(t, begun+line, 400)
	}
	wantRead(t, get("x:1", "X:2", "y:3", "x:1"), plain("x", "1", "x", "2", "y", "3", "x", "1"))
	for i := range begun {
		wantMore(t, begun[:i])
	}
	wantMore(t, begun)
	wantMore(t, begun+"\r")
}

// P11.1: step 2, how many headers there may be, and of how many bytes.
func TestManyHeaders(t *testing.T) {
	many := slices.Repeat([]string{"x:y"}, 31)
	wantRead(t, get(many...), plain(slices.Repeat([]string{"x", "y"}, 31)...))
	wantStatus(t, strings.TrimSuffix(get(many...), "\r\n")+"x:y\r\n", 431)
	wantStatus(t, strings.TrimSuffix(get(many...), "\r\n")+"no header\r\n", 431)
	wantStatus(t, strings.TrimSuffix(get(many...), "\r\n")+"x\n", 400)

	line := "x:" + strings.Repeat("y", 1000)
	last := "z:" + strings.Repeat("y", 4096-len(host)-4*(len(line)+2)-4)
	all := plain(append(slices.Repeat([]string{"x", line[2:]}, 4), "z", last[2:])...)
	wantRead(t, get(line, line, line, line, last), all)
	begun := strings.TrimSuffix(get(line, line, line, line), "\r\n")
	wantStatus(t, begun+last+"y\r\n", 431)
	wantStatus(t, begun+strings.Replace(last, ":", " ", 1)+"y\r\n", 431)
	wantStatus(t, begun+last+"\r\r\n", 400)
	wantStatus(t, begun+last+"\r\ny\r\n", 431)
	wantStatus(t, begun+last+"\r\ny\n", 400)
}

// P11.1: step 3, what the headers say together.
func TestHead(t *testing.T) {
	begun := "GET /a HTTP/1.1\r\n"
	for _, c := range []struct {
		all    []string
		status int
	}{
		{[]string{"x:y"}, 400},
		{[]string{"host:a", "Host:a"}, 400},
		{[]string{"host:a", "HOST:b", "content-length:9000"}, 400},
		{[]string{"transfer-encoding:gzip"}, 400},
		{[]string{"content-length:9000"}, 400},
		{[]string{"host:", "transfer-encoding:chunked", "content-length:5"}, 400},
		{[]string{"host:", "transfer-encoding:gzip", "content-length:9000"}, 400},
		{[]string{"host:", "transfer-encoding:chunked", "transfer-encoding:chunked", "content-length:5"}, 400},
		{[]string{"host:", "transfer-encoding:chunked", "transfer-encoding:chunked"}, 501},
		{[]string{"host:", "transfer-encoding:"}, 501},
		{[]string{"host:", "transfer-encoding:gzip, chunked"}, 501},
		{[]string{"host:", "transfer-encoding:chunked,"}, 501},
		{[]string{"host:", "transfer-encoding:chun\u212aed"}, 501},
		{[]string{"host:", "transfer-encoding:identity"}, 501},
		{[]string{"host:", "content-length:1", "content-length:1"}, 400},
		{[]string{"host:", "content-length:9000", "content-length:9000"}, 400},
		{[]string{"host:", "content-length:"}, 400},
		{[]string{"host:", "content-length:-1"}, 400},
		{[]string{"host:", "content-length:+1"}, 400},
		{[]string{"host:", "content-length:1 1"}, 400},
		{[]string{"host:", "content-length:1,1"}, 400},
		{[]string{"host:", "content-length:1.0"}, 400},
		{[]string{"host:", "content-length:0x1"}, 400},
		{[]string{"host:", "content-length:1_0"}, 400},
		{[]string{"host:", "content-length:a"}, 400},
		{[]string{"host:", "content-length:１"}, 400},
		{[]string{"host:", "content-length:0000000000000000001"}, 400},
		{[]string{"host:", "content-length:9999999999999999999999"}, 400},
		{[]string{"host:", "content-length:999999999999999999"}, 413},
		{[]string{"host:", "content-length:8193"}, 413},
		{[]string{"host:", "content-length:000000000000008193"}, 413},
	} {
		wantStatus(t, begun+lines(c.all...)+"\r\n", c.status)
	}
	want := plain()
	want.Headers[0].Value = ""
	wantRead(t, begun+"Host:\r\n\r\n", want)
}

// P11.1: step 4, a body of a length.
func TestLength(t *testing.T) {
	for _, size := range []int{0, 1, 2, 1026, 8191, 8192} {
		for _, text := range []string{strconv.Itoa(size), "0000" + strconv.Itoa(size), strings.Repeat("0", 18-len(strconv.Itoa(size))) + strconv.Itoa(size)} {
			want := plain("content-length", text)
			want.Body = strings.Repeat("\r\n\x00x", size/4+1)[:size]
			wantRead(t, get("Content-Length: "+text)+want.Body, want)
			if size > 0 {
				wantMore(t, get("Content-Length: "+text)+want.Body[1:])
			}
		}
	}
	wantMore(t, get("content-length:8192"))
	wantRead(t, get(), plain())
}

// P11.1: step 4, a body of chunks.
func TestChunks(t *testing.T) {
	head := get("transfer-encoding:CHUnked")
	want := plain("transfer-encoding", "CHUnked")
	for chunks, body := range map[string]string{
		"0\r\n": "", "00000000\r\n": "", "0 \t; x\r\n": "", "0;\x00\xff\r\n": "",
		"3\r\nabc\r\n0\r\n": "abc", "00000003\r\nabc\r\n0\r\n": "abc", "3 \r\nabc\r\n0\r\n": "abc", "3\tx;\r\nabc\r\n0\r\n": "abc", "3;\r\nabc\r\n0\r\n": "abc", "3; \x00\r\nabc\r\n0\r\n": "abc",
		"1\r\na\r\n2\r\nbc\r\n0\r\n": "abc", "2\r\n\r\n\r\n0\r\n": "\r\n", "a\r\n0123456789\r\n0\r\n": "0123456789", "B\r\n0123456789x\r\n0\r\n": "0123456789x",
		"1F\r\n" + strings.Repeat("x", 31) + "\r\n0\r\n": strings.Repeat("x", 31), "fE\r\n" + strings.Repeat("x", 254) + "\r\n0\r\n": strings.Repeat("x", 254),
		"2000\r\n" + strings.Repeat("x", 8192) + "\r\n0\r\n": strings.Repeat("x", 8192), "1fff\r\n" + strings.Repeat("x", 8191) + "\r\n1\r\nx\r\n0\r\n": strings.Repeat("x", 8192),
		strings.Repeat("1\r\nx\r\n", 8192) + "0\r\n": strings.Repeat("x", 8192),
	} {
		want.Body = body
		wantRead(t, head+chunks+"\r\n", want)
		wantRead(t, head+chunks+"a trailer\r\n\x00:\r\n\r\n", want)
		wantMore(t, head+chunks)
	}
	for chunks, status := range map[string]int{
		"\r\n": 400, "\n": 400, "3\n": 400, "3\r\r\n": 400, "\r3\r\n": 400, " 3\r\n": 400, ";3\r\n": 400, "x\r\n": 400, "g\r\n": 400, "3g\r\n": 400, "3x\r\n": 400, "0x3\r\n": 400, "-3\r\n": 400, "+3\r\n": 400, "3,\r\n": 400, "3\x00\r\n": 400, "3\v\r\n": 400, "3_0\r\n": 400,
		"000000003\r\n": 400, "000000000\r\n": 400, "123456789\r\n": 400, "123456789;\r\n": 400, "３\r\n": 400,
		"2001\r\n": 413, "ffffffff\r\n": 413, "80000000;\r\n": 413, "1\r\nx\r\n2000\r\n": 413, "2000\r\n" + strings.Repeat("x", 8192) + "\r\n1\r\n": 413, "fffffff \r\n": 413, "1\r\nx\r\nffffffff\r\n": 413,
		"3\r\nabcd": 400, "3\r\nabc\n": 400, "3\r\nabc\r\r": 400, "3\r\nabc\rx": 400, "3\r\nabc0": 400, "1\r\nx\r\n\r\n": 400,
		"0\r\n\n": 400, "0\r\nx\n": 400, "0\r\nx\r\r\n": 400, "0\r\n\r\r\n": 400, "0\r\na\rb\r\n": 400,
	} {
		wantStatus(t, head+chunks, status)
	}
}

// P11.1: step 4, how many trailers there may be.
func TestTrailers(t *testing.T) {
	head := get("transfer-encoding:chunked") + "1\r\nb\r\n0\r\n"
	want := plain("transfer-encoding", "chunked")
	want.Body = "b"
	long := strings.Repeat(strings.Repeat("t", 1024)+"\r\n", 32)
	wantRead(t, head+long+"\r\n", want)
	wantStatus(t, head+long+"t\r\n", 431)
	wantStatus(t, head+long+"t\n", 431)
	wantStatus(t, head+strings.Repeat("t\r\n", 31)+"t\n", 400)
	wantMore(t, head+long)
	wantRead(t, head+"host: x\r\nconnection: close\r\ncontent-length: 3\r\n\r\n", want)
}

// Close is told of any header connection, and of any of its pieces.
func TestClose(t *testing.T) {
	for value, close := range map[string]bool{
		"close": true, "CLOSE": true, "cLoSe": true, "\tclose ": true, "a,close": true, "close,a": true, "a, close\t,b": true, ",close": true, "close,": true, ",,\t close": true,
		"": false, ",": false, "closed": false, "a close": false, "close b": false, "close;a": false, "clo,se": false, "keep-alive": false, "clo\u017fe": false, "close\u00a0": false, "\"close\"": false,
	} {
		want := plain("connection", strings.Trim(value, " \t"))
		want.Close = close
		wantRead(t, get("Connection:"+value), want)
		want = plain("connection", "a", "connection", strings.Trim(value, " \t"))
		want.Close = close
		wantRead(t, get("Connection:a", "connection:"+value), want)
	}
	wantRead(t, get("close:close", "x-connection:close"), plain("close", "close", "x-connection", "close"))
}

// The first step that can't be done tells, whatever is wrong further on.
func TestWhichStatus(t *testing.T) {
	long := strings.Repeat("x", 1026)
	for buf, status := range map[string]int{
		"GET /a HTTP/1.1\nx": 400, "G(T /a HTTP/1.0\r\nx:" + long: 400, "GET /a HTTP/1.0\r\n" + long: 505, long + "\n": 414,
		"GET /a HTTP/1.1\r\nx\r\n" + long: 400, "GET /a HTTP/1.1\r\n\r\n" + long: 400, "GET /a HTTP/1.1\r\nx:\r\n" + long: 431,
		"GET /a HTTP/1.1\r\ncontent-length: 9000\r\ntransfer-encoding: x\r\n\r\n": 400,
	} {
		if got, took, is := Read(buf); !same(got, api.Request{}) || took != 0 || is != status {
			t.Errorf("Read(%s): %d, want %d", short(buf), is, status)
		}
	}
}

// P11.2.
func TestGet(t *testing.T) {
	r := api.Request{Headers: headers("a", "1", "b", " 2 ", "a", "3", "B", "4", "", "5", "e", "")}
	for name, want := range map[string]string{"a": "1", "b": " 2 ", "B": "4", "": "5", "e": ""} {
		if got, there := Get(r, name); got != want || !there {
			t.Errorf("Get(%q) = %q, %v", name, got, there)
		}
	}
	for _, name := range []string{"A", "c", " a", "a ", "a:", "ab"} {
		if got, there := Get(r, name); got != "" || there {
			t.Errorf("Get(%q) = %q, %v", name, got, there)
		}
	}
	if got, there := Get(api.Request{}, ""); got != "" || there {
		t.Errorf("Get of no headers = %q, %v", got, there)
	}
	read, _, _ := Read("GET /a HTTP/1.1\r\nHost: h\r\nIF:  (<x>) \r\n\r\n")
	if got, there := Get(read, "if"); got != "(<x>)" || !there {
		t.Errorf("Get(if) = %q, %v", got, there)
	}
	if _, there := Get(read, "IF"); there {
		t.Error("Get(IF) is there")
	}
}
