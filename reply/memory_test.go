package reply

import (
	"slices"
	"strings"
	"sync"
	"testing"
	"unsafe"

	"docket/api"
)

// part is some memory: where it begins, and where it ends.
type part struct {
	from, to uintptr
}

func partOf(s string) part {
	from := uintptr(unsafe.Pointer(unsafe.StringData(s)))
	return part{from, from + uintptr(len(s))}
}

// room is the memory of a list, its spare room included.
func room[T any](list []T) part {
	from := uintptr(unsafe.Pointer(unsafe.SliceData(list)))
	return part{from, from + uintptr(cap(list))*unsafe.Sizeof(*new(T))}
}

func (p part) meets(q part) bool {
	return p.from < q.to && q.from < p.to
}

// partsOf is all the memory of a response.
func partsOf(r api.Response) []part {
	all := []part{partOf(r.Body), room(r.Headers)}
	for _, h := range r.Headers {
		all = append(all, partOf(h.Name), partOf(h.Value))
	}
	return all
}

// apart wants no part of one list to meet one of the other.
func apart(t *testing.T, a, b []part) {
	t.Helper()
	for _, p := range a {
		if slices.ContainsFunc(b, p.meets) {
			t.Errorf("memory is shared: %v", p)
		}
	}
}

// P1 (rule 5): reasons are new memory.
func TestReasonMemory(t *testing.T) {
	for _, status := range statuses() {
		apart(t, []part{partOf(Reason(status))}, []part{partOf(Reason(status))})
	}
}

// P1 (rule 5): forms are new memory, and a response that is handed in stays as it is, its spare room included.
func TestWriteMemory(t *testing.T) {
	for _, status := range []int{200, 204, 299} {
		all := append(make([]api.Header, 0, 4), headers("Aaaa", "bbbb", "Content-Type", "text/plain", "Cccc", "dddd")...)
		r := api.Response{Status: status, Headers: all[:2], Body: strings.Repeat("body", 1000*(204-min(204, status)))}
		first, _ := Write(r)
		second, _ := Write(r)
		apart(t, []part{partOf(first)}, append(partsOf(r), partOf(second)))
		Good(r)
		if !slices.Equal(all[:4], headers("Aaaa", "bbbb", "Content-Type", "text/plain", "Cccc", "dddd", "", "")) {
			t.Errorf("the headers are %v now", all[:4])
		}
	}
}

// P1 (rule 5): a response that is read is new memory.
func TestReadMemory(t *testing.T) {
	text := form("HTTP/1.1 200 OK", "Aaaa: bbbb", "Aaaa: bbbb", "Cc: d", "Content-Length: 4", "") + "body"
	for _, head := range []bool{false, true} {
		buf := strings.Clone(text)
		first, _, _ := Read(buf, head)
		second, _, _ := Read(buf, head)
		apart(t, partsOf(first), append(partsOf(second), partOf(buf)))
		apart(t, partsOf(second), []part{partOf(buf)})
		first.Headers = append(first.Headers[:0], slices.Repeat(headers("changed", ""), cap(first.Headers))...)
		if third, _, found := Read(buf, head); !same(second, third) || !found || len(third.Headers) != 3 {
			t.Errorf("behind a change of what was told: %+v, %+v", second, third)
		}
	}
}

// P1 (rule 6): calls at one time know nothing of each other.
func TestAtOneTime(t *testing.T) {
	var all sync.WaitGroup
	for i := range 16 {
		all.Go(func() {
			for range 100 {
				r := api.Response{Status: statuses()[i], Headers: headers("A", strings.Repeat("b", i)), Close: i%2 == 0}
				text, err := Write(r)
				if got, took, found := Read(text+"x", false); !same(got, r) || took != len(text) || !found || err != api.OK {
					t.Errorf("%q is read as %+v, %d, %v", text, got, took, found)
				}
			}
		})
	}
	all.Wait()
}
