package path

import (
	"slices"
	"strings"

	"sutler/api"
)

// Target tells where a link leads to.
func Target(at, to string) (string, api.Errno) {
	if at == "" || to == "" || Check(at) != api.OK {
		return "", api.ErrPath
	}
	names, ok := follow(start(at, to), to)
	if !ok {
		return "", api.ErrPath
	}
	// Only the end is held against the limit: on the way a path may be longer.
	p := strings.Join(names, "/")
	if len(p) > api.MaxPath {
		return "", api.ErrPath
	}
	return p, api.OK
}

// start is a stack of the names that a target is followed from.
func start(at, to string) []string {
	if strings.HasPrefix(to, "/") {
		return nil
	}
	return up(slices.Collect(parts(at)))
}

// follow goes from a stack of names on, part by part, unless that leads out of the root or over a
// part that is no name.
func follow(stack []string, to string) ([]string, bool) {
	for part := range parts(to) {
		switch {
		case part == "" || part == here:
		case part == above && len(stack) > 0:
			stack = up(stack)
		case isName(part):
			stack = append(stack, part)
		default:
			return nil, false
		}
	}
	return stack, true
}

// up cuts the last name off a stack. The room for it is kept, or else each name behind a .. would
// make a copy of all that is on the stack.
func up(stack []string) []string {
	last := len(stack) - 1
	return stack[:last:cap(stack)]
}
