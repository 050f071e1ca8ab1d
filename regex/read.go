package regex

import (
	"bridleway/api"
	"bridleway/lex"
)

// open is what was read of an expression that is not at its end: its rows, and the items of the row that is read.
type open struct {
	rows []api.Regex
	row  []api.Regex
}

// item takes an item into the row, or, if it is a row in brackets, that row's items.
func (o *open) item(r api.Regex) {
	o.row = takeUp(o.row, r, api.RSeq)
}

func (o *open) endRow() {
	r := whole(o.row, api.RSeq)
	o.row = nil
	o.rows = takeUp(o.rows, r, api.RAlt)
}

func (o *open) end() api.Regex {
	o.endRow()
	return whole(o.rows, api.RAlt)
}

func takeUp(l []api.Regex, r api.Regex, kind int) []api.Regex {
	switch {
	case r.Kind != kind:
		return append(l, r)
	case len(l) == 0:
		return r.Parts
	}
	return append(l, r.Parts...)
}

func whole(l []api.Regex, kind int) api.Regex {
	if len(l) == 1 {
		return l[0]
	}
	return api.Regex{Kind: kind, Parts: l}
}

// Read is the expression with which words begin, and how many words it has. Brackets that are open are kept on a list: they may be more than calls can be.
func Read(l []api.Word) (api.Regex, int, api.Errno) {
	stack := []open{{}}
	var r api.Regex
	i := 0

piece:
	if i < len(l) && is(l[i], "(") && !(i+1 < len(l) && is(l[i+1], ")")) {
		stack = append(stack, open{})
		i++
		goto piece
	}
	{
		piece, size, code := readPiece(l[i:])
		if code != api.OK {
			return api.Regex{}, i + size, code
		}
		r = piece
		i += size
	}

item:
	for i < len(l) && times(l[i]) != api.RNone {
		r = api.Regex{Kind: times(l[i]), Parts: []api.Regex{r}}
		i++
	}
	top := &stack[len(stack)-1]
	top.item(r)
	switch {
	case i < len(l) && is(l[i], "|"):
		top.endRow()
		fallthrough
	case i < len(l) && is(l[i], "."):
		i++
		goto piece
	case len(stack) > 1 && i == len(l):
		return api.Regex{}, i, api.ErrEnd
	case len(stack) > 1 && !is(l[i], ")"):
		return api.Regex{}, i, api.ErrForm
	}
	r = top.end()
	if len(stack) > 1 {
		stack = stack[:len(stack)-1]
		i++
		goto item
	}
	if !Good(r) {
		return api.Regex{}, 0, api.ErrLong
	}
	return r, i, api.OK
}

// readPiece reads a name, ^ and a name, or ( ), and tells how many words it has; or how many words stand ahead of what is wrong.
func readPiece(l []api.Word) (api.Regex, int, api.Errno) {
	i := 0
	back := len(l) > 0 && is(l[0], "^")
	if back {
		i = 1
	}
	switch {
	case i == len(l):
		return api.Regex{}, i, api.ErrEnd
	case l[i].Kind == api.WName:
		return api.Regex{Kind: api.RSym, Sym: api.Sym{Label: l[i].Text, Back: back}}, i + 1, api.OK
	case !back && is(l[i], "("):
		return api.Regex{Kind: api.REmpty}, 2, api.OK
	}
	return api.Regex{}, i, api.ErrForm
}

func is(w api.Word, sign string) bool {
	return w.Kind == api.WSign && w.Text == sign
}

// times is the kind of the sign that stands behind a piece.
func times(w api.Word) int {
	switch {
	case is(w, "*"):
		return api.RStar
	case is(w, "+"):
		return api.RPlus
	case is(w, "?"):
		return api.ROpt
	}
	return api.RNone
}

// Parse reads a whole text.
func Parse(s string) (api.Regex, int, api.Errno) {
	l, at, code := lex.Words(s)
	if code != api.OK {
		return api.Regex{}, at, code
	}
	r, n, code := Read(l)
	if code == api.OK && n < len(l) {
		return api.Regex{}, n, api.ErrForm
	}
	return r, n, code
}
