package wire

import (
	"strings"

	"docket/api"
)

// text is bytes in either of the forms in which they wait: Read is handed a string, and a connection gathers a slice.
type text interface{ string | []byte }

const (
	// aLine stands for the number of bytes of a line, which the bytes tell themselves.
	aLine = -1
	// longestLine counts the CR and LF, too.
	longestLine = api.MaxLine + 2
)

// cut tells a piece of so many bytes off the front, if they are there. It is new memory, so that what is made of it shares none with the bytes.
func cut[T text](rest T, size int) (string, bool) {
	if size == aLine {
		size = lineSize(rest)
	}
	if len(rest) < size {
		return "", false
	}
	return strings.Clone(string(rest[:size])), true
}

// lineSize tells how many bytes a line has with its end; of one that has no end among the bytes that may be looked at, it is these: whoever gets so many without an end knows that it is too long.
func lineSize[T text](rest T) int {
	for i := range min(len(rest), longestLine) {
		if rest[i] == '\n' {
			return i + 1
		}
	}
	return longestLine
}

// bare tells a line without its end, or a status: its own one for a line that is too long.
func bare(line string, tooLong int) (string, int) {
	line, ended := strings.CutSuffix(line, "\n")
	if !ended {
		return "", tooLong
	}
	line, ended = strings.CutSuffix(line, "\r")
	if !ended || strings.Contains(line, "\r") {
		return "", badRequest
	}
	return line, 0
}
