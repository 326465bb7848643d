package wire

import "docket/api"

// step is what a reader will do with the next piece of the bytes.
type step int

const (
	readRequestLine step = iota
	readHeader
	readBody
	readChunkLine
	readChunk
	readChunkCR
	readChunkLF
	readTrailer
	whole
)

// reader reads one request, piece by piece. What it has taken it never asks for again: so it may go on whenever more bytes come, and can't tell how they came.
type reader struct {
	step     step
	size     int // how many bytes the body, or the chunk, has
	head     int // how many bytes the lines of the headers have so far
	trailers int
	request  api.Request
}

// run lets a reader take pieces off the bytes, until its request is whole. It tells how many bytes were taken, and 0, or a status, or more.
func run[T text](r *reader, rest T) (int, int) {
	took := 0
	for r.step != whole {
		piece, there := cut(rest[took:], r.wants())
		if !there {
			return took, more
		}
		took += len(piece)
		if status := r.take(piece); status != 0 {
			return took, status
		}
	}
	return took, 0
}

// wants tells of how many bytes the next piece is.
func (r *reader) wants() int {
	switch r.step {
	case readBody, readChunk:
		return r.size
	case readChunkCR, readChunkLF:
		// These are looked at one by one, since what isn't a CR is told without the byte behind it.
		return 1
	}
	return aLine
}

// take does the step with its piece, and tells a status where it can't be done.
func (r *reader) take(piece string) int {
	switch r.step {
	case readRequestLine:
		return r.takeRequestLine(piece)
	case readHeader:
		return r.takeHeader(piece)
	case readBody:
		return r.takeBody(piece, whole)
	case readChunkLine:
		return r.takeChunkLine(piece)
	case readChunk:
		return r.takeBody(piece, readChunkCR)
	case readChunkCR:
		return r.expect(piece, "\r", readChunkLF)
	case readChunkLF:
		return r.expect(piece, "\n", readChunkLine)
	}
	return r.takeTrailer(piece)
}

// then tells which step is the next one, and that the last could be done.
func (r *reader) then(next step) int {
	r.step = next
	return 0
}

func (r *reader) expect(piece, want string, next step) int {
	if piece != want {
		return badRequest
	}
	return r.then(next)
}
