package wire

// The statuses of what is no request.
const (
	badRequest  = 400
	longBody    = 413
	longTarget  = 414
	longHead    = 431
	otherCoding = 501
	otherHTTP   = 505
)

// more stands in a status's place where the bytes end too soon.
const more = -1
