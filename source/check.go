package source

import "quill/api"

// Check tells whether a text is a source, and if not, why and where (P3).
func Check(src string) (api.Errno, int) {
	if len(src) > api.MaxSource {
		return api.ErrLong, 0
	}
	actions, wrong, read := Read(src)
	if !read {
		return api.ErrSyntax, wrong
	}
	twice, found := firstTwice(actions)
	if found {
		return api.ErrTwice, twice
	}
	unknown, stray := firstUnknown(actions)
	if stray {
		return api.ErrName, unknown
	}
	return api.OK, 0
}

// firstTwice answers the place of the first template whose name an earlier one has.
func firstTwice(actions []Action) (int, bool) {
	for i := 0; i < len(actions); i++ {
		if actions[i].Kind == Begin && hasTemplate(actions[:i], actions[i].Name) {
			return actions[i].At, true
		}
	}
	return 0, false
}

// firstUnknown answers the place of the first call of a name that no template has.
func firstUnknown(actions []Action) (int, bool) {
	for i := 0; i < len(actions); i++ {
		if actions[i].Kind == Call && !hasTemplate(actions, actions[i].Name) {
			return actions[i].At, true
		}
	}
	return 0, false
}

// hasTemplate tells whether a template of that name begins among the actions.
func hasTemplate(actions []Action, name string) bool {
	for i := 0; i < len(actions); i++ {
		if actions[i].Kind == Begin && actions[i].Name == name {
			return true
		}
	}
	return false
}
