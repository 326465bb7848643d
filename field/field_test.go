package field

import (
	"regexp"
	"strings"
	"testing"
	"unsafe"
)

var (
	token = regexp.MustCompile("^[a-zA-Z0-9!#$%&'*+.^_`|~-]+$")
	value = regexp.MustCompile(`^[^\x00-\x08\x0a-\x1f\x7f]*$`)
)

// eachText calls with every text of at most two bytes.
func eachText(hold func(text string)) {
	hold("")
	for a := range 256 {
		hold(string([]byte{byte(a)}))
		for b := range 256 {
			hold(string([]byte{byte(a), byte(b)}))
		}
	}
}

func TestTokensAndValues(t *testing.T) {
	eachText(func(text string) {
		if got, want := IsToken(text), token.MatchString(text); got != want {
			t.Fatalf("IsToken(%q) = %v", text, got)
		}
		if got, want := IsValue(text), value.MatchString(text); got != want {
			t.Fatalf("IsValue(%q) = %v", text, got)
		}
	})
}

// Letters that the library's calls would make small ones out of others, like the sign of Kelvin, stay.
func TestSmall(t *testing.T) {
	for text, want := range map[string]string{
		"": "", "a": "a", "AZaz09-_[@`{": "azaz09-_[@`{", "CHUN\u212aED": "chun\u212aed", "\u017fÄÖ\xff\xc4": "\u017fÄÖ\xff\xc4",
	} {
		if got := Small(text); got != want {
			t.Errorf("Small(%q) = %q, want %q", text, got, want)
		}
	}
	eachText(func(text string) {
		want := []byte(text)
		for i, c := range want {
			if strings.IndexByte("ABCDEFGHIJKLMNOPQRSTUVWXYZ", c) >= 0 {
				want[i] = "abcdefghijklmnopqrstuvwxyz"[c-'A']
			}
		}
		if got := Small(text); got != string(want) {
			t.Fatalf("Small(%q) = %q", text, got)
		}
	})
}

// P1 (rule 5): a text in which nothing is to be changed is new memory, too.
func TestSmallIsNew(t *testing.T) {
	text := strings.Clone("small")
	if small := Small(text); unsafe.StringData(small) == unsafe.StringData(text) {
		t.Error("Small answers its argument's memory")
	}
}

func TestTrim(t *testing.T) {
	for text, want := range map[string]string{
		"": "", " ": "", "\t \t": "", "a": "a", " a\t": "a", "\t a b \t ": "a b", "\va\v": "\va\v", "\u00a0a\n": "\u00a0a\n", "\r": "\r",
	} {
		if got := Trim(text); got != want {
			t.Errorf("Trim(%q) = %q, want %q", text, got, want)
		}
	}
}
