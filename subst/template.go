package subst

const stroke = '\\'

// cut parts a template at its first escape sequence: the bytes ahead of it, the byte behind its stroke, and the rest. If there is none, all of the template is kept.
func cut(template string) (kept string, escaped byte, rest string) {
	for i := 1; i < len(template); i++ {
		if template[i-1] == stroke && isEscaped(template[i]) {
			return template[:i-1], template[i], template[i+1:]
		}
	}
	return template, 0, ""
}

func isEscaped(c byte) bool { return '0' <= c && c <= '9' || c == stroke }
