package source

// BodyEnd tells which action ends the body in which the action from is the first: a {:}, a {/} or a {-}.
func BodyEnd(actions []Action, from int) int {
	depth := 0
	for i := from; i >= 0 && i < len(actions); i++ {
		if depth == 0 && EndsBody(actions[i].Kind) {
			return i
		}
		switch actions[i].Kind {
		case Choice, Loop:
			depth++
		case Done:
			depth--
		}
	}
	return len(actions)
}

// EndsBody tells whether bodies end at an action of a kind.
func EndsBody(kind int) bool {
	return kind == Else || kind == Done || kind == End
}

// Behind tells which action comes behind a piece; of a choice or a loop, behind the whole of it.
func Behind(actions []Action, i int) int {
	if i < 0 || i >= len(actions) {
		return len(actions)
	}
	if actions[i].Kind != Choice && actions[i].Kind != Loop {
		return i + 1
	}
	end := BodyEnd(actions, i+1)
	if end < len(actions) && actions[end].Kind == Else {
		end = BodyEnd(actions, end+1)
	}
	return end + 1
}
