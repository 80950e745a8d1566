package tree

import (
	"strings"

	"graticule/api"
	"graticule/dec"
)

// The words of a bool.
const (
	yes = "true"
	no  = "false"
)

// A printer puts the text of a valid node together.
type printer struct {
	strings.Builder
}

func (p *printer) node(n api.Node) {
	switch n.Kind {
	case api.KindCall:
		p.call(n)
	case api.KindPath:
		p.WriteString(n.Text)
	case api.KindNumber:
		p.WriteString(dec.Print(api.Val{Ok: true, N: n.N}))
	case api.KindString:
		mark := markAround(n.Text)
		p.WriteString(mark + n.Text + mark)
	case api.KindBool:
		p.WriteString(wordOf(n.N))
	}
}

func (p *printer) call(n api.Node) {
	p.WriteString(n.Text + "(")
	for i, kid := range n.Kids {
		if i > 0 {
			p.WriteString(",")
		}
		p.node(kid)
	}
	p.WriteString(")")
}

// markAround is a quotation mark that isn't in the text.
func markAround(text string) string {
	if strings.Contains(text, `"`) {
		return "'"
	}
	return `"`
}

func wordOf(bit int) string {
	if bit == 1 {
		return yes
	}
	return no
}
