package reply

// noContent is the one status whose response has no body, and so tells no length of it.
const noContent = 204

// reason tells what stands behind a status in its line, or an empty text if there is no such status.
func reason(status int) string {
	switch status {
	case 200:
		return "OK"
	case 201:
		return "Created"
	case noContent:
		return "No Content"
	case 207:
		return "Multi-Status"
	case 400:
		return "Bad Request"
	case 403:
		return "Forbidden"
	case 404:
		return "Not Found"
	case 405:
		return "Method Not Allowed"
	case 409:
		return "Conflict"
	case 412:
		return "Precondition Failed"
	case 413:
		return "Content Too Large"
	case 414:
		return "URI Too Long"
	case 415:
		return "Unsupported Media Type"
	case 422:
		return "Unprocessable Content"
	case 423:
		return "Locked"
	case 424:
		return "Failed Dependency"
	case 431:
		return "Request Header Fields Too Large"
	case 500:
		return "Internal Server Error"
	case 501:
		return "Not Implemented"
	case 505:
		return "HTTP Version Not Supported"
	case 507:
		return "Insufficient Storage"
	}
	return ""
}
