package wire

import (
	"regexp"
	"strconv"
	"strings"
	"testing"

	"docket/api"
)

// dice throws the same numbers in each run.
type dice uint64

func (x *dice) below(n int) int {
	*x = *x*6364136223846793005 + 1442695040888963407
	return int(uint64(*x) >> 33 % uint64(n))
}

func one[T any](x *dice, of []T) T {
	return of[x.below(len(of))]
}

// told reads bytes as the chapter's words have it. It gives up with a status by panic.
type told struct {
	buf string
	at  int
}

var (
	goodLine    = regexp.MustCompile(`^[^\r]*\r\n$`)
	requestLine = regexp.MustCompile("^([a-zA-Z0-9!#$%&'*+.^_`|~-]+) ([!-~]+) HTTP/([0-9])\\.([0-9])$")
	headerLine  = regexp.MustCompile("(?s)^([a-zA-Z0-9!#$%&'*+.^_`|~-]+):[ \t]*([^\\x00-\\x08\\x0a-\\x1f\\x7f]*?)[ \t]*$")
	lengthValue = regexp.MustCompile(`^[0-9]{1,18}$`)
	chunkStart  = regexp.MustCompile("(?s)^([0-9a-fA-F]{1,8})([ \t;].*)?$")
	chunkedWord = regexp.MustCompile(`^[cC][hH][uU][nN][kK][eE][dD]$`)
	closeWord   = regexp.MustCompile(`(^|,)[ \t]*[cC][lL][oO][sS][eE][ \t]*(,|$)`)
)

// line tells the next line, whether it is broken, and its bytes without the end.
func (w *told) line(tooLong int) (text string, broken bool) {
	rest := w.buf[w.at:]
	if !strings.Contains(rest[:min(len(rest), 1026)], "\n") {
		if len(rest) < 1026 {
			panic(-1)
		}
		panic(tooLong)
	}
	line, _, _ := strings.Cut(rest, "\n")
	w.at += len(line) + 1
	return strings.TrimSuffix(line, "\r"), !goodLine.MatchString(line + "\n")
}

func (w *told) bytes(n int) string {
	if len(w.buf)-w.at < n {
		panic(-1)
	}
	w.at += n
	return w.buf[w.at-n : w.at]
}

func need(holds bool, status int) {
	if !holds {
		panic(status)
	}
}

func lower(s string) string {
	return regexp.MustCompile(`[A-Z]`).ReplaceAllStringFunc(s, strings.ToLower)
}

// toldRead is the chapter's words, taken as they stand.
func toldRead(buf string) (r api.Request, took, status int) {
	defer func() {
		if given, is := recover().(int); is {
			r, took, status = api.Request{}, 0, given
		}
	}()
	w := &told{buf: buf}
	line, broken := w.line(414)
	for line == "" && !broken {
		line, broken = w.line(414)
	}
	parts := requestLine.FindStringSubmatch(line)
	need(!broken && parts != nil, 400)
	need(parts[3]+parts[4] == "11", 505)
	r.Method, r.Target = parts[1], parts[2]
	values := w.headers(&r)
	hosts, codings, lengths := values["host"], values["transfer-encoding"], values["content-length"]
	need(len(hosts) == 1, 400)
	need(codings == nil || lengths == nil, 400)
	for _, value := range values["connection"] {
		r.Close = r.Close || closeWord.MatchString(value)
	}
	switch {
	case codings != nil:
		need(len(codings) == 1 && chunkedWord.MatchString(codings[0]), 501)
		r.Body = w.chunks()
	case lengths != nil:
		need(len(lengths) == 1 && lengthValue.MatchString(lengths[0]), 400)
		n, _ := strconv.Atoi(lengths[0])
		need(n <= 8192, 413)
		r.Body = w.bytes(n)
	}
	return r, w.at, 0
}

func (w *told) headers(r *api.Request) map[string][]string {
	values := map[string][]string{}
	for from := w.at; ; {
		line, broken := w.line(431)
		need(!broken, 400)
		if line == "" {
			return values
		}
		need(w.at-from <= 4096 && len(r.Headers) < 32, 431)
		parts := headerLine.FindStringSubmatch(line)
		need(parts != nil, 400)
		name := lower(parts[1])
		r.Headers = append(r.Headers, api.Header{Name: name, Value: parts[2]})
		values[name] = append(values[name], parts[2])
	}
}

func (w *told) chunks() string {
	body := ""
	for {
		line, broken := w.line(400)
		parts := chunkStart.FindStringSubmatch(line)
		need(!broken && parts != nil, 400)
		n, _ := strconv.ParseInt(parts[1], 16, 64)
		if n == 0 {
			w.trailers()
			return body
		}
		need(len(body)+int(n) <= 8192, 413)
		body += w.bytes(int(n))
		need(w.bytes(1) == "\r", 400)
		need(w.bytes(1) == "\n", 400)
	}
}

func (w *told) trailers() {
	for count := 1; ; count++ {
		line, broken := w.line(431)
		if line == "" && !broken {
			return
		}
		need(count <= 32, 431)
		need(!broken, 400)
	}
}

// hold holds Read against the words, and tells the status.
func hold(t *testing.T, buf string) int {
	t.Helper()
	got, took, status := Read(buf)
	want, wantTook, wantStatus := toldRead(buf)
	if !same(got, want) || took != wantTook || status != wantStatus {
		t.Fatalf("Read(%q) = %+v, %d, %d, want %+v, %d, %d", buf, got, took, status, want, wantTook, wantStatus)
	}
	return status
}

// holdPieces holds a connection against the words, in pieces of any sizes.
func holdPieces(t *testing.T, x *dice, buf string) {
	t.Helper()
	var want []answer
	for rest := buf; ; {
		request, took, status := toldRead(rest)
		if status == -1 {
			break
		}
		want = append(want, answer{request, status})
		if status != 0 || request.Close {
			break
		}
		rest = rest[took:]
	}
	var pieces []string
	most := one(x, []int{1, 2, 5, 100, 3000})
	for rest := buf; rest != ""; {
		size := min(len(rest), x.below(most+1))
		pieces, rest = append(pieces, rest[:size]), rest[size:]
	}
	asked := x.below(4)
	if got := inPieces(t, pieces, func(int) bool { return x.below(4) <= asked }); !sameAnswers(got, want) {
		t.Fatalf("%q in pieces: %+v, want %+v", pieces, got, want)
	}
}

var (
	someLines   = []string{"GET /a HTTP/1.1", "GET /a HTTP/1.1", "GET /a HTTP/1.1", "p-~ * HTTP/1.1", "PROPFIND /x%20y HTTP/1.1", "GET /a HTTP/1.0", "GET /a HTTP/1.1 ", "GET  /a HTTP/1.1", "GET /a", "GET /" + strings.Repeat("a", 1030) + " HTTP/1.1"}
	someHeaders = []string{"X:y", "x: \ty\t ", "Connection: keep-alive", "connection:a,CLOSE", "If: (<a>)", "x:", "Y-_~:\xff", "Transfer-encoding: x"}
	badHeaders  = []string{"x", ":", " x:y", "x :y", "x:\x7f", "x:\x00", "x\xff:", "Host:2", "content-length:1", "transfer-encoding:chunked", strings.Repeat("x", 1025), "x:" + strings.Repeat("y", 1022), "x:" + strings.Repeat("y", 1023)}
	someSizes   = []string{"1", "2", "3 ", "4;x", "00000001", "A", "10;\t", "1\t;", "fF", "1fff", "1000", "fff"}
	badSizes    = []string{"", "x", "000000001", "2001", "ffffffff", " 1", "1,", "-1"}
	someEnds    = []string{"\r\n", "\r\n", "\r\n", "\r\n", "\r\n", "\r\n", "\r\n", "\r\n", "\r\n", "\r\n", "\r\n", "\r\n", "\r\n", "\r\n", "\r\n", "\r\n", "\r\n", "\r\n", "\r\n", "\n", "\r\r\n", "\r", "\n\r", ""}
)

// message lays a request, most often a good one; wrong says how often something is wrong with it: once in so many parts.
func (x *dice) message(wrong int) string {
	var all strings.Builder
	end := func() string {
		if x.below(wrong) == 0 {
			return one(x, someEnds)
		}
		return "\r\n"
	}
	pick := func(good, bad []string) string {
		if x.below(wrong) == 0 {
			return one(x, bad)
		}
		return one(x, good)
	}
	all.WriteString(strings.Repeat("\r\n", max(0, x.below(5)-2)))
	all.WriteString(pick(someLines[:4], someLines) + end())
	if x.below(wrong) > 0 {
		all.WriteString("HOST: h" + end())
	}
	most := one(x, []int{2, 3, 5, 33})
	for range x.below(most) {
		all.WriteString(pick(someHeaders[:7], append(badHeaders, someHeaders...)) + end())
	}
	switch x.below(4) {
	case 0:
		size := one(x, []int{0, 1, 5, 500, 8192, 8193})
		all.WriteString("Content-length:" + strconv.Itoa(size) + end() + end() + strings.Repeat("b", size-min(size, x.below(2)*x.below(2))))
	case 1, 2:
		all.WriteString("transfer-encoding: Chunked" + end() + end())
		for range x.below(4) {
			line := pick(someSizes, badSizes)
			size, _ := strconv.ParseInt(strings.TrimRight(line, "\t; x"), 16, 32)
			all.WriteString(line + end() + strings.Repeat("\n", int(max(0, min(size, 8193)))) + end())
		}
		all.WriteString("0" + end())
		most := one(x, []int{1, 2, 3, 35})
		for range x.below(most) {
			all.WriteString(one(x, []string{"x", "x:y", "\x00", ";"}) + end())
		}
		all.WriteString(end())
	default:
		all.WriteString(end())
	}
	return all.String()
}

// P11.1, P11.4: many requests, good ones and bad ones, held against the words.
func TestAgainstTheWords(t *testing.T) {
	x := dice(11)
	statuses := map[int]int{}
	for range 8000 {
		wrong := one(&x, []int{8, 30, 1000})
		buf := x.message(wrong)
		statuses[hold(t, buf)]++
		statuses[hold(t, buf[:x.below(len(buf)+1)])]++
		if x.below(4) == 0 {
			holdPieces(t, &x, buf+x.message(wrong)+x.message(wrong))
		}
	}
	for _, status := range []int{0, -1, 400, 413, 414, 431, 501, 505} {
		if statuses[status] < 5 {
			t.Errorf("status %d came %d times", status, statuses[status])
		}
	}
}

// P11.1: each byte of requests made another one, left out, or doubled.
func TestSpoilt(t *testing.T) {
	for _, buf := range []string{
		"\r\nGET /a HTTP/1.1\r\nhost: h\r\nconnection: close\r\n\r\n",
		"P * HTTP/1.1\r\nhost:\r\nContent-Length: 02\r\n\r\nab",
		"P * HTTP/1.1\r\nhost:\r\ntransfer-encoding: chunked\r\n\r\n2 x\r\nab\r\n01\r\nc\r\n0\r\nt\r\n\r\n",
	} {
		for i := range len(buf) {
			for c := range 256 {
				hold(t, buf[:i]+string([]byte{byte(c)})+buf[i+1:])
				hold(t, buf[:i]+string([]byte{byte(c)})+buf[i:])
			}
			hold(t, buf[:i]+buf[i+1:])
			hold(t, buf[:i])
		}
	}
}

// P11.1: each short text of some bytes, in each place of a request.
func TestEachShortText(t *testing.T) {
	head := get("transfer-encoding: chunked")
	texts := []string{""}
	for range 5 {
		var longer []string
		for _, text := range texts {
			for _, c := range "\r\n :0a" {
				longer = append(longer, text+string(c))
			}
		}
		texts = longer
		for _, text := range texts {
			for _, place := range []string{"", "G /", "G / HTTP/1.1\r\n", "G / HTTP/1.1\r\nhost:", head, head + "1", head + "1\r\n", head + "0\r\n"} {
				hold(t, place+text)
			}
		}
	}
}

func FuzzRead(f *testing.F) {
	x := dice(12)
	for range 50 {
		f.Add(x.message(10)+x.message(100), uint64(x))
	}
	for _, buf := range several() {
		f.Add(buf, uint64(1))
	}
	f.Fuzz(func(t *testing.T, buf string, seed uint64) {
		if len(buf) > 1<<17 {
			return
		}
		x := dice(seed)
		hold(t, buf)
		holdPieces(t, &x, buf)
	})
}
