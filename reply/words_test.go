package reply

import (
	"regexp"
	"strconv"
	"strings"
	"testing"

	"docket/api"
)

// dice throws the same numbers in each run.
type dice uint64

func (x *dice) below(n int) int {
	*x = *x*6364136223846793005 + 1442695040888963407
	return int(uint64(*x) >> 33 % uint64(n))
}

func one[T any](x *dice, of []T) T {
	return of[x.below(len(of))]
}

const (
	tokenForm = "[a-zA-Z0-9!#$%&'*+.^_`|~-]+"
	// valueForm has no white at its ends: what isn't white is from 33 to 126, or from 128 on.
	valueForm = `(?:[^\x00-\x20\x7f](?:[^\x00-\x08\x0a-\x1f\x7f]*[^\x00-\x20\x7f])?)?`
)

var (
	toldToken  = regexp.MustCompile("^" + tokenForm + "$")
	toldValue  = regexp.MustCompile("^" + valueForm + "$")
	toldFrames = regexp.MustCompile("^(?i:content-length|connection|transfer-encoding)$")
	toldHead   = regexp.MustCompile("^HTTP/1\\.1 ([0-9]{3}) ([A-Za-z -]+)\r\n((?:" + tokenForm + ": " + valueForm + "\r\n)*?)(?:Content-Length: (0|[1-9][0-9]*)\r\n)?(Connection: close\r\n)?\r\n")
)

// toldGood is what the chapter says of a good response, taken as it stands.
func toldGood(r api.Response) bool {
	for _, h := range r.Headers {
		if !toldToken.MatchString(h.Name) || !toldValue.MatchString(h.Value) || toldFrames.MatchString(h.Name) {
			return false
		}
	}
	return reasons[r.Status] != "" && len(r.Headers) <= 32 && len(r.Body) <= 65536 && (r.Status != 204 || r.Body == "")
}

// toldWrite is the form of a response whose body has so many bytes.
func toldWrite(r api.Response, size int) string {
	all := "HTTP/1.1 " + strconv.Itoa(r.Status) + " " + reasons[r.Status] + "\r\n"
	for _, h := range r.Headers {
		all += h.Name + ": " + h.Value + "\r\n"
	}
	if r.Status != 204 {
		all += "Content-Length: " + strconv.Itoa(size) + "\r\n"
	}
	if r.Close {
		all += "Connection: close\r\n"
	}
	all += "\r\n"
	if !r.Head {
		all += r.Body
	}
	return all
}

// toldRead guesses a response, and takes it if the bytes begin with its form.
func toldRead(buf string, head bool) (api.Response, int, bool) {
	parts := toldHead.FindStringSubmatch(buf)
	if parts == nil {
		return api.Response{}, 0, false
	}
	status, _ := strconv.Atoi(parts[1])
	size, _ := strconv.Atoi(parts[4])
	r := api.Response{Status: status, Head: head, Close: parts[5] != ""}
	for _, line := range strings.Split(parts[3], "\r\n") {
		if name, value, found := strings.Cut(line, ": "); found {
			r.Headers = append(r.Headers, api.Header{Name: name, Value: value})
		}
	}
	if rest := buf[len(parts[0]):]; !head {
		r.Body = rest[:min(len(rest), size)]
	}
	text := toldWrite(r, size)
	if !toldGood(r) || size > 65536 || !head && len(r.Body) != size || !strings.HasPrefix(buf, text) {
		return api.Response{}, 0, false
	}
	return r, len(text), true
}

// hold holds Read against the words, and tells whether there was a response.
func hold(t *testing.T, buf string) bool {
	t.Helper()
	some := false
	for _, head := range []bool{false, true} {
		got, took, found := Read(buf, head)
		want, wantTook, wantFound := toldRead(buf, head)
		if !same(got, want) || took != wantTook || found != wantFound {
			t.Fatalf("Read(%q, %v) = %+v, %d, %v, want %+v, %d, %v", buf, head, got, took, found, want, wantTook, wantFound)
		}
		some = some || found
	}
	return some
}

// holdWrite holds Good and Write against the words, and Read against Write.
func holdWrite(t *testing.T, r api.Response) bool {
	t.Helper()
	text, err := Write(r)
	want, wantErr := "", api.ErrArg
	if toldGood(r) {
		want, wantErr = toldWrite(r, len(r.Body)), api.OK
	}
	if Good(r) != toldGood(r) || text != want || err != wantErr {
		t.Fatalf("of %+v: Good is %v, and Write tells %q, %v, want %q, %v", r, Good(r), text, err, want, wantErr)
	}
	if err == api.OK {
		if r.Head {
			r.Body = ""
		}
		wantRead(t, text+r.Body, r, len(text))
	}
	return err == api.OK
}

var (
	goodNames  = []string{"A", "etag", "Content-Type", "X-~", "!#$%&'*+-.^_`|~", "HTTP"}
	badNames   = []string{"", "a b", " a", "a:", "connection", "Content-length", "TRANSFER-ENCODING", "a\r\nb", "\x7f", "a\x00", "\u212a"}
	goodValues = []string{"", "b", `"1"`, "a b\tc", ": ", "\xff\x80", "a: b", "1, 2"}
	badValues  = []string{" ", "b ", "\tb", "\r", "a\nb", "a\r\nb: c", "\x00", "a\x7fb", "\x1f"}
)

// response lays a response, most often a good one; wrong says how often something is wrong with it: once in so many parts.
func (x *dice) response(wrong int) api.Response {
	pick := func(good, bad []string) string {
		if x.below(wrong) == 0 {
			return one(x, bad)
		}
		return one(x, good)
	}
	r := api.Response{Status: one(x, statuses()), Head: x.below(3) == 0, Close: x.below(3) == 0}
	if x.below(wrong) == 0 {
		r.Status = one(x, []int{0, -200, 199, 202, 203, 300, 506, 2000, x.below(1000)})
	}
	most := one(x, []int{1, 2, 4, 33})
	for range x.below(most) {
		r.Headers = append(r.Headers, api.Header{Name: pick(goodNames, badNames), Value: pick(goodValues, badValues)})
	}
	if x.below(wrong) == 0 {
		r.Headers = append(r.Headers, make([]api.Header, x.below(3))...)
		for len(r.Headers) < 33 && x.below(40) > 0 {
			r.Headers = append(r.Headers, api.Header{Name: one(x, goodNames), Value: one(x, goodValues)})
		}
	}
	if r.Status != 204 || x.below(wrong) == 0 {
		size := one(x, []int{0, 1, 9, 10, 500, 500, 500, 65536})
		if x.below(wrong) == 0 {
			size = one(x, []int{65537, 65600, 100000})
		}
		r.Body = strings.Repeat(one(x, []string{"x", "\n", "\x00", "\r\n"}), size)[:size]
	}
	return r
}

// P12.1 to P12.3: many responses, good ones and bad ones, held against the words; and their forms, cut and spoilt.
func TestAgainstTheWords(t *testing.T) {
	x := dice(12)
	written, read, lost := 0, 0, 0
	for range 6000 {
		r := x.response(one(&x, []int{8, 30, 1000}))
		if holdWrite(t, r) {
			written++
		}
		text := toldWrite(r, len(r.Body)+one(&x, []int{0, 0, 0, 0, 0, 0, 1, -1, 65536}))
		text = text[:len(text)-one(&x, []int{0, 0, 0, 1, 2})]
		if x.below(3) == 0 {
			at := x.below(min(len(text), 150))
			text = text[:at] + one(&x, []string{"", " ", "\r\n", "\n", "0", "A: b\r\n", "Connection: close\r\n", "Content-Length: 1\r\n", "\x80"}) + text[at+x.below(2):]
		}
		if hold(t, text+one(&x, []string{"", "", "x", "\r\n", "A: b\r\n\r\n"})) {
			read++
		} else {
			lost++
		}
	}
	if written < 1000 || read < 1000 || lost < 1000 {
		t.Errorf("%d were written, %d read, and %d not", written, read, lost)
	}
}

// P12.2: each byte of forms made another one, left out, or doubled.
func TestSpoilt(t *testing.T) {
	for _, buf := range []string{
		form("HTTP/1.1 200 OK", "A: b", "Content-Length: 2", "Connection: close", "") + "hi",
		form("HTTP/1.1 204 No Content", "E-Tag: \"1 2\"", "Connection: close", ""),
		form("HTTP/1.1 404 Not Found", "Content-Length: 0", ""),
		form("HTTP/1.1 507 Insufficient Storage", "a:  ", "Content-Length: 10", "") + "0123456789",
	} {
		for i := range len(buf) {
			for c := range 256 {
				hold(t, buf[:i]+string([]byte{byte(c)})+buf[i+1:])
				hold(t, buf[:i]+string([]byte{byte(c)})+buf[i:])
			}
			hold(t, buf[:i]+buf[i+1:])
			hold(t, buf[:i])
		}
	}
}

// P12.2: each short text of some bytes, and each short list of some lines, in each place of a form.
func TestEachShortText(t *testing.T) {
	places := []string{"", "HTTP/1.1", "HTTP/1.1 20", "HTTP/1.1 200 OK", form("HTTP/1.1 200 OK"), form("HTTP/1.1 200 OK") + "A", form("HTTP/1.1 204 No Content"), form("HTTP/1.1 200 OK") + "Content-Length: ", form("HTTP/1.1 200 OK", "Content-Length: 1")}
	each(4, []string{"\r", "\n", " ", ":", "0", "a"}, func(text string) {
		for _, place := range places {
			hold(t, place+text)
			hold(t, place+text+form("", "Content-Length: 0", "")+"xx")
		}
	})
	read := 0
	each(5, []string{"A: b\r\n", "Content-Length: 1\r\n", "content-length: 1\r\n", "Connection: close\r\n", "x", "\r\n"}, func(text string) {
		for _, place := range []string{form("HTTP/1.1 200 OK"), form("HTTP/1.1 204 No Content")} {
			if hold(t, place+text) {
				read++
			}
		}
	})
	if read < 100 {
		t.Errorf("only %d were read", read)
	}
}

// each calls with every text of at most so many pieces.
func each(most int, pieces []string, do func(text string)) {
	texts := []string{""}
	do("")
	for range most {
		var longer []string
		for _, text := range texts {
			for _, piece := range pieces {
				longer = append(longer, text+piece)
				do(text + piece)
			}
		}
		texts = longer
	}
}

func FuzzRead(f *testing.F) {
	x := dice(13)
	for range 50 {
		r := x.response(20)
		// Long seeds would take the fuzzer's time.
		r.Body = r.Body[:min(len(r.Body), 20)]
		f.Add(toldWrite(r, len(r.Body)))
	}
	f.Fuzz(func(t *testing.T, buf string) {
		hold(t, buf)
		r, _, _ := Read(buf, false)
		holdWrite(t, r)
	})
}

func FuzzWrite(f *testing.F) {
	f.Add(200, "A", "b", "body", true, false)
	f.Add(204, "Content-Length", "b ", "", false, true)
	f.Fuzz(func(t *testing.T, status int, name, value, body string, head, ends bool) {
		holdWrite(t, api.Response{Status: status, Headers: headers(name, value), Body: body, Head: head, Close: ends})
	})
}
