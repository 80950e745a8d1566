package rex

// A code is instructions whose X and Y of Jump and Split count from the place of the instruction itself, so that they hold wherever the code comes to stand.
type code []Inst

func (c *code) emit(l ...Inst) { *c = append(*c, l...) }

// placed is the code from instruction 0 on, with the indices of instructions.
func (c code) placed() []Inst {
	l := make([]Inst, len(c))
	for i, x := range c {
		switch x.Op {
		case Split:
			x.X, x.Y = i+x.X, i+x.Y
		case Jump:
			x.X = i + x.X
		}
		l[i] = x
	}
	return l
}

// saved is a code with its beginning and end recorded as those of a group.
func saved(group int, inner code) code {
	var c code
	c.emit(Inst{Op: Save, X: 2 * group})
	c.emit(inner...)
	c.emit(Inst{Op: Save, X: 2*group + 1})
	return c
}

// choice is one of the branches, those ahead first.
func choice(branches []code) code {
	last := len(branches) - 1
	left := len(branches[last])
	for _, b := range branches[:last] {
		left += len(b) + 2
	}
	var c code
	for _, b := range branches[:last] {
		left -= len(b) + 2
		c.emit(Inst{Op: Split, X: 1, Y: len(b) + 2})
		c.emit(b...)
		c.emit(Inst{Op: Jump, X: left + 1})
	}
	c.emit(branches[last]...)
	return c
}

// repeated is a code with the repetition *, + or ? behind it.
func repeated(x code, sign byte, lazy bool) code {
	n := len(x)
	var c code
	switch sign {
	case '*':
		c.emit(split(1, n+2, lazy))
		c.emit(x...)
		c.emit(Inst{Op: Jump, X: -n - 1})
	case '+':
		c.emit(x...)
		c.emit(split(-n, 1, lazy))
	case '?':
		c.emit(split(1, n+1, lazy))
		c.emit(x...)
	}
	return c
}

// split goes in first, or out first if it is lazy.
func split(in, out int, lazy bool) Inst {
	if lazy {
		in, out = out, in
	}
	return Inst{Op: Split, X: in, Y: out}
}
