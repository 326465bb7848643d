package wire

import (
	"slices"
	"strings"
	"sync"
	"testing"
	"unsafe"

	"docket/api"
)

// part is some memory: where it begins, and where it ends.
type part struct {
	from, to uintptr
}

func partOf(s string) part {
	from := uintptr(unsafe.Pointer(unsafe.StringData(s)))
	return part{from, from + uintptr(len(s))}
}

// room is the memory of a list, its spare room included.
func room[T any](list []T) part {
	from := uintptr(unsafe.Pointer(unsafe.SliceData(list)))
	return part{from, from + uintptr(cap(list))*unsafe.Sizeof(*new(T))}
}

func (p part) meets(q part) bool {
	return p.from < q.to && q.from < p.to
}

func textsOf(r api.Request) []string {
	all := []string{r.Method, r.Target, r.Body}
	for _, h := range r.Headers {
		all = append(all, h.Name, h.Value)
	}
	return all
}

// apart wants requests to share no memory with each other, nor with this one.
func apart(t *testing.T, with part, requests ...api.Request) {
	t.Helper()
	for i, r := range requests {
		for _, text := range textsOf(r) {
			if partOf(text).meets(with) {
				t.Errorf("%q of request %d lies in what is kept, or was handed in", text, i)
			}
			for _, other := range requests[i+1:] {
				if slices.ContainsFunc(textsOf(other), func(s string) bool { return partOf(s).meets(partOf(text)) }) {
					t.Errorf("%q of request %d lies in another one", text, i)
				}
			}
		}
		for _, other := range requests[i+1:] {
			if room(r.Headers).meets(room(other.Headers)) {
				t.Errorf("request %d shares its headers with another one", i)
			}
		}
	}
}

var bodies = []string{
	get("xx: yyyy", "content-length: 4") + "body",
	get("xx: yyyy", "content-length: 0"),
	get("transfer-encoding: chunked") + "4\r\nbody\r\n0\r\n\r\n",
	get("transfer-encoding: chunked") + "4\r\nbody\r\n4\r\nbody\r\n0\r\n\r\n",
}

// P1 (rule 5): a request that is read is new memory.
func TestReadsNewMemory(t *testing.T) {
	for _, all := range bodies {
		buf := strings.Clone(all)
		first, _, _ := Read(buf)
		second, _, _ := Read(buf)
		apart(t, partOf(buf), first, second)
		first.Headers = append(first.Headers[:0], slices.Repeat([]api.Header{{Name: "changed"}}, cap(first.Headers))...)
		if third, _, _ := Read(buf); !same(second, third) {
			t.Errorf("behind a change of what was told: %+v, want %+v", second, third)
		}
	}
}

// P1 (rule 5): a connection keeps a copy of what it is fed, and hands out none of what it keeps.
func TestConnMemory(t *testing.T) {
	var c Conn
	var requests []api.Request
	begun := "GET /a HTTP/1.1\r\nHost: hhhh"
	fed := strings.Clone(strings.Join(bodies, "") + begun)
	c.Feed(fed)
	if kept := part(room(c.rest)); kept.meets(partOf(fed)) {
		t.Error("the connection keeps what it was fed")
	}
	for _, a := range ask(t, &c) {
		requests = append(requests, a.request)
	}
	apart(t, partOf(fed), requests...)
	apart(t, room(c.rest), requests...)
	apart(t, room(c.next.request.Headers), requests...)
	if len(requests) != len(bodies) || partOf(c.next.request.Method).meets(partOf(fed)) {
		t.Errorf("%d requests, or a method that lies in what was fed", len(requests))
	}
	for i, r := range requests {
		want, _, _ := Read(bodies[i])
		if !same(r, want) {
			t.Errorf("request %d is %+v", i, r)
		}
	}
}

// P1 (rule 5): what Get tells is new memory, and the request stays as it is.
func TestGetMemory(t *testing.T) {
	all := append(make([]api.Header, 0, 3), headers("a", "vvvv", "b", "wwww")...)
	r := api.Request{Headers: all}
	got, _ := Get(r, "b")
	if partOf(got).meets(partOf(all[1].Value)) {
		t.Error("Get tells the request's memory")
	}
	if !slices.Equal(all[:3], headers("a", "vvvv", "b", "wwww", "", "")) {
		t.Errorf("Get has changed the headers: %v", all[:3])
	}
}

// P1 (rule 6): calls at one time know nothing of each other.
func TestAtOneTime(t *testing.T) {
	var all sync.WaitGroup
	for i := range 16 {
		all.Go(func() {
			for range 100 {
				buf := bodies[i%len(bodies)]
				got, took, status := Read(buf)
				if got.Method != "GET" || took != len(buf) || status != 0 {
					t.Errorf("Read(%q) = %+v, %d, %d", buf, got, took, status)
				}
				if pieces := inPieces(t, strings.Split(buf, ""), always); len(pieces) != 1 || !same(pieces[0].request, got) {
					t.Errorf("%q byte by byte: %+v", buf, pieces)
				}
			}
		})
	}
	all.Wait()
}
