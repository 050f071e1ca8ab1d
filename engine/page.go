package engine

import (
	"bridleway/access"
	"bridleway/anyk"
	"bridleway/api"
	"bridleway/cursor"
	"bridleway/each"
	"bridleway/mark"
)

// mostTold is how many answers are said to be told at most.
const mostTold = 1 << 53

// Page is the next n answers behind a token, and the token of where telling stands then.
func (e *Engine) Page(token string, n int) ([]api.Answer, string, api.Errno) {
	switch {
	case e == nil || n < 0 || n > api.MaxPage:
		return nil, "", api.ErrArg
	case e.q.Count:
		return nil, "", api.ErrState
	case e.q.Cost:
		return e.pageByCost(token, n)
	}
	return e.pageInOrder(token, n)
}

// place is where telling in order stands: at one of a row's answers, if the mark has nodes; else ahead of all, or behind all.
type place struct {
	m   api.Mark
	w   *each.Walk
	row api.Row
}

// next goes to the next answer.
func (p *place) next() bool {
	switch {
	case p.m.Over:
		return false
	case p.m.Rest+1 < p.row.N:
		p.m.Rest++
		return true
	}
	row, ok := p.w.Next()
	if !ok {
		return false
	}
	p.row, p.m.Nodes, p.m.Rest = row, row.Nodes, 0
	return true
}

func (e *Engine) placeOf(m api.Mark) *place {
	p := &place{m: m, w: each.New(e.tree())}
	if len(m.Nodes) > 0 {
		p.row, _ = e.tree().Row(m.Nodes...)
		p.w.To(m.Nodes...)
	}
	return p
}

// begin is the mark of where a page in order begins.
func (e *Engine) begin(token string) (api.Mark, api.Errno) {
	if token != "" {
		m, code := cursor.Get(token)
		if code != api.OK || !cursor.Fits(e.tree(), m) {
			return api.Mark{}, api.ErrToken
		}
		return m, api.OK
	}
	if e.skip() == 0 {
		return cursor.Start(), api.OK
	}
	row, rest, ok := access.At(e.counts, e.skip()-1)
	if !ok {
		return api.Mark{Over: true}, api.OK
	}
	return api.Mark{Nodes: row.Nodes, Rest: rest}, api.OK
}

func (e *Engine) pageInOrder(token string, n int) ([]api.Answer, string, api.Errno) {
	m, code := e.begin(token)
	if code != api.OK {
		return nil, "", code
	}
	p := e.placeOf(m)
	t := e.newTeller()
	var l []api.Answer
	for len(l) < n && !e.beyond(uint64(p.m.Told)) && p.next() {
		p.m.Told = min(p.m.Told+1, mostTold)
		l = append(l, t.answer(p.row, p.m.Rest))
	}
	token, _ = cursor.Put(p.m)
	if e.beyond(uint64(p.m.Told)) || !p.next() {
		token = ""
	}
	return l, token, api.OK
}

// ranked is where telling by cost stands.
type ranked struct {
	r    *anyk.Ranked
	told int
}

// beginByCost is where a page by cost begins.
func (e *Engine) beginByCost(token string) (ranked, api.Errno) {
	if token != "" {
		m, code := mark.Get(e.costs, token)
		if code != api.OK {
			return ranked{}, code
		}
		r, code := anyk.From(e.costs, m.Items...)
		return ranked{r, m.Told}, code
	}
	r := anyk.New(e.costs)
	for range e.skip() {
		if _, ok := r.Next(); !ok {
			break
		}
		if r.Len() > api.MaxItems {
			return ranked{}, api.ErrFull
		}
	}
	return ranked{r, 0}, api.OK
}

func (e *Engine) pageByCost(token string, n int) ([]api.Answer, string, api.Errno) {
	p, code := e.beginByCost(token)
	if code != api.OK {
		return nil, "", code
	}
	t := e.newTeller()
	var l []api.Answer
	for len(l) < n && !e.beyond(uint64(p.told)) {
		row, ok := p.r.Next()
		if !ok {
			break
		}
		if p.r.Len() > api.MaxItems {
			return nil, "", api.ErrFull
		}
		p.told = min(p.told+1, mostTold)
		l = append(l, t.answer(row, 0))
	}
	token, code = e.tokenByCost(p)
	if code != api.OK {
		return nil, "", code
	}
	return l, token, api.OK
}

// tokenByCost is the token of where telling by cost stands; empty, if no answer is left.
func (e *Engine) tokenByCost(p ranked) (string, api.Errno) {
	if p.r.Len() == 0 || e.beyond(uint64(p.told)) {
		return "", api.OK
	}
	token, code := mark.Put(e.costs, api.Mark{Told: p.told, Items: p.r.Items()})
	switch {
	case code != api.OK:
		return "", api.ErrToken
	case len(token) > api.MaxToken:
		return "", api.ErrFull
	}
	return token, api.OK
}
