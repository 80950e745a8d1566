package subst

import (
	"strings"

	"graticule/pike"
	"graticule/rex"
)

// A result is put together out of parts, as long as there is room for them.
type result struct {
	built strings.Builder
	room  int  // bytes that may still be added
	over  bool // a part had no room
}

func (r *result) add(parts ...string) {
	for _, s := range parts {
		if len(s) > r.room {
			r.over = true
			return
		}
		r.room -= len(s)
		r.built.WriteString(s)
	}
}

// expand adds a template with groups. It ends as soon as there is no room, since the whole of it may be a great deal more than that.
func (r *result) expand(template, text string, places []int) {
	for template != "" && !r.over {
		kept, escaped, rest := cut(template)
		switch escaped {
		case 0:
			r.add(kept)
		case stroke:
			r.add(kept, string(stroke))
		default:
			r.add(kept, pike.Group(text, places, int(escaped-'0')))
		}
		template = rest
	}
}

// replace adds what becomes of the text from an offset to the end of the next match, and answers where the search goes on.
func (r *result) replace(p rex.Prog, template, text string, at int) int {
	places, ok := pike.Find(p, text, at)
	if !ok || places[0] < at || places[1] < places[0] {
		r.add(text[at:])
		return len(text) + 1
	}
	begin, end := places[0], places[1]
	r.add(text[at:begin])
	r.expand(template, text, places)
	if begin < end {
		return end
	}
	next := min(end+1, len(text))
	r.add(text[end:next])
	return end + 1
}
