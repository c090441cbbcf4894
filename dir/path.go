package dir

import "janus/api"

// Split answers a path's parts, all of which are names.
func Split(path string) ([]string, api.Errno) {
	if path == "" {
		return nil, api.ENOENT
	}
	if len(path) > api.MaxPath {
		return nil, api.ENAMETOOLONG
	}
	parts := partsOf(path)
	for _, p := range parts {
		if len(p) > api.MaxName {
			return nil, api.ENAMETOOLONG
		}
		if !isName(p) {
			return nil, api.EINVAL
		}
	}
	return parts, api.OK
}

// partsOf cuts a path at its slashes. What is no rune counts as one of a single byte, so it hides no
// slash; the parts are cut by the bytes' places, so it stays in them as it is.
func partsOf(path string) []string {
	var parts []string
	from := 0
	for at, r := range path {
		if r != '/' {
			continue
		}
		if at > from {
			parts = append(parts, path[from:at])
		}
		from = at + 1
	}
	if from < len(path) {
		parts = append(parts, path[from:])
	}
	return parts
}

func isName(text string) bool {
	for _, r := range text {
		if r == 0 || r == '/' {
			return false
		}
	}
	return text != "" && len(text) <= api.MaxName
}
