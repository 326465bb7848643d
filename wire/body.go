package wire

import (
	"strconv"
	"strings"

	"docket/api"
)

const (
	decimalDigits = "0123456789"
	hexDigits     = decimalDigits + "abcdefABCDEF"
)

// expectLength makes ready for a body whose length the headers tell.
func (r *reader) expectLength(lengths []string) int {
	size, rest, ok := number(lengths[0], 10, 18)
	switch {
	case len(lengths) > 1 || !ok || rest != "":
		return badRequest
	case size > api.MaxBody:
		return longBody
	}
	r.size = int(size)
	return r.then(readBody)
}

// number tells the number that a text's first digits are, and what stands behind them; or false, if they are none, or too many.
func number(text string, base, most int) (uint64, string, bool) {
	digits := decimalDigits
	if base == 16 {
		digits = hexDigits
	}
	rest := strings.TrimLeft(text, digits)
	count := len(text) - len(rest)
	if count == 0 || count > most {
		return 0, "", false
	}
	n, err := strconv.ParseUint(text[:count], base, 64)
	return n, rest, err == nil
}

// takeBody takes bytes of the body.
func (r *reader) takeBody(piece string, next step) int {
	r.request.Body += piece
	return r.then(next)
}

func (r *reader) takeChunkLine(piece string) int {
	line, status := bare(piece, badRequest)
	if status != 0 {
		return status
	}
	size, rest, ok := number(line, 16, 8)
	room := uint64(api.MaxBody - len(r.request.Body))
	switch {
	case !ok || rest != "" && strings.IndexByte(" \t;", rest[0]) < 0:
		return badRequest
	case size == 0:
		return r.then(readTrailer)
	case size > room:
		return longBody
	}
	r.size = int(size)
	return r.then(readChunk)
}

// takeTrailer passes a trailer over: what it says is not a part of the request.
func (r *reader) takeTrailer(piece string) int {
	line, status := bare(piece, longHead)
	switch {
	case status == 0 && line == "":
		return r.then(whole)
	case r.trailers == api.MaxHeaders:
		return longHead
	}
	r.trailers++
	return status
}
