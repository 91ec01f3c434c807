package source

import "quill/api"

// Check tells whether a text is a source, and if not, why and where (P3).
func Check(src string) (api.Errno, int) {
	_, e, at := Load(src)
	return e, at
}

// Load answers the actions of a source, in their order; or Check's error and its place.
func Load(src string) ([]Action, api.Errno, int) {
	if len(src) > api.MaxSource {
		return nil, api.ErrLong, 0
	}
	actions, wrong, read := readActions(src)
	if !read {
		return nil, api.ErrSyntax, wrong
	}
	twice, found := firstTwice(actions)
	if found {
		return nil, api.ErrTwice, twice
	}
	unknown, stray := firstUnknown(actions)
	if stray {
		return nil, api.ErrName, unknown
	}
	return actions, api.OK, 0
}

// firstTwice answers the place of the first template whose name an earlier one has.
func firstTwice(actions []Action) (int, bool) {
	for i := 0; i < len(actions); i++ {
		if actions[i].Kind != Begin {
			continue
		}
		_, found := Find(actions[:i], actions[i].Name)
		if found {
			return actions[i].At, true
		}
	}
	return 0, false
}

// firstUnknown answers the place of the first call of a name that no template has.
func firstUnknown(actions []Action) (int, bool) {
	for i := 0; i < len(actions); i++ {
		if actions[i].Kind != Call {
			continue
		}
		_, found := Find(actions, actions[i].Name)
		if !found {
			return actions[i].At, true
		}
	}
	return 0, false
}

// Find tells which of the actions begins the template of that name; false, if none does.
func Find(actions []Action, name string) (int, bool) {
	for i := 0; i < len(actions); i++ {
		if actions[i].Kind == Begin && actions[i].Name == name {
			return i, true
		}
	}
	return 0, false
}
