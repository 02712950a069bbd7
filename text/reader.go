package text

import "jalousie/api"

// reader goes through the tokens of a text, and gives up at the first one with
// which it can be no project any more, whatever comes behind it.
type reader struct {
	left []api.Token
	end  int // where the text ends
}

// parts are the names of a text, as they stand in its parts.
type parts struct {
	states, events, seen, free, faults, secret, starts, ends []api.Token
	arrows                                                   [][3]api.Token
}

// parts takes all tokens.
func (r *reader) parts() parts {
	var p parts
	p.states = r.part("states", 1)
	p.events = r.part("events", 0)
	p.seen = r.part("seen", 0)
	p.free = r.part("free", 0)
	p.faults = r.part("faults", 0)
	p.secret = r.part("secret", 0)
	p.starts = r.part("starts", 0)
	p.ends = r.part("ends", 0)
	p.arrows = r.arrows()
	if len(r.left) > 0 {
		giveUp(api.ErrForm, r.at())
	}
	return p
}

// part takes a word, at least so many names, and the sign behind them.
func (r *reader) part(word string, least int) []api.Token {
	r.take(the(word))
	var names []api.Token
	for len(names) < least || r.comes(anyName()) {
		names = append(names, r.take(anyName()))
	}
	r.take(the(";"))
	return names
}

// arrows takes the part of the arrows.
func (r *reader) arrows() [][3]api.Token {
	r.take(the("arrows"))
	var out [][3]api.Token
	for more := r.comes(anyName()); more; more = r.skip(the(",")) {
		from, event, to := r.take(anyName()), r.take(anyName()), r.take(anyName())
		out = append(out, [3]api.Token{from, event, to})
	}
	r.take(the(";"))
	return out
}

// the asks for the token of that text. One text is not of two kinds.
func the(text string) func(t api.Token) bool {
	return func(t api.Token) bool { return t.Text == text }
}

// anyName asks for a name, also one that looks like a word of the form.
func anyName() func(t api.Token) bool {
	return func(t api.Token) bool { return t.Kind == api.KWord }
}

// comes tells whether the next token is one that is asked for.
func (r *reader) comes(asked func(t api.Token) bool) bool {
	return len(r.left) > 0 && asked(r.left[0])
}

// take answers the next token, and gives up if it is none that is asked for.
func (r *reader) take(asked func(t api.Token) bool) api.Token {
	if !r.comes(asked) {
		giveUp(api.ErrForm, r.at())
	}
	t := r.left[0]
	r.left = r.left[1:]
	return t
}

// skip takes the next token if it is one that is asked for, and tells whether it is.
func (r *reader) skip(asked func(t api.Token) bool) bool {
	is := r.comes(asked)
	if is {
		r.take(asked)
	}
	return is
}

// at answers where the next token stands, or the text's end if there is none.
func (r *reader) at() int {
	if len(r.left) == 0 {
		return r.end
	}
	return r.left[0].At
}
