package ltl

import "vigil/api"

const (
	longest = 200
	deepest = 20
)

// fault is what a reader stops with.
type fault struct {
	errno api.Errno
	at    int
}

// reader goes through a text from the left.
type reader struct {
	text  string
	at    int
	depth int // how many brackets and signs are around this place
}

// level is a row of the grammar: its signs stand between what the row below it
// reads.
type level struct {
	signs map[byte]int // by the sign's first byte
	rest  string       // the sign's other bytes
	right bool         // whether the last two of several come first
}

func (r *reader) fail(e api.Errno) { panic(fault{e, r.at}) }

// formula reads all of the text, or tells the fault that stopped it.
func (r *reader) formula() (f api.Form, e api.Errno, at int) {
	defer func() {
		if stop, ok := recover().(fault); ok {
			f, e, at = api.Form{}, stop.errno, stop.at
		}
	}()
	return r.whole(), api.OK, 0
}

// peek is the next byte that is no blank; 0 where the text ends, since no
// formula has that byte.
func (r *reader) peek() byte {
	for r.at < len(r.text) && r.text[r.at] == ' ' {
		r.at++
	}
	if r.at == len(r.text) {
		return 0
	}
	return r.text[r.at]
}

// exact takes these bytes, with nothing ahead of them.
func (r *reader) exact(bytes string) {
	for i := range len(bytes) {
		if r.at == len(r.text) || r.text[r.at] != bytes[i] {
			r.fail(api.ErrForm)
		}
		r.at++
	}
}

// within takes a sign's byte, and reads what that is around.
func (r *reader) within(read func() api.Form) api.Form {
	if r.depth == deepest {
		r.fail(api.ErrDeep)
	}
	r.at++
	r.depth++
	f := read()
	r.depth--
	return f
}

// word takes all small letters that stand here.
func (r *reader) word() api.Form {
	end := r.at
	for end < len(r.text) && r.text[end] >= 'a' && r.text[end] <= 'z' {
		end++
	}
	f := api.Form{}
	switch w := r.text[r.at:end]; {
	case w == kinds[api.True].sign:
		f.Op = api.True
	case w == kinds[api.False].sign:
		f.Op = api.False
	case len(w) == 1 && w[0] <= 'h':
		f.Op, f.N = api.Prop, int(w[0]-'a')
	default:
		r.fail(api.ErrForm)
	}
	r.at = end
	return f
}

// whole reads a formula up to the text's end.
func (r *reader) whole() api.Form {
	levels := [...]level{
		{signs: map[byte]int{'-': api.Implies}, rest: ">", right: true},
		{signs: map[byte]int{'|': api.Or}},
		{signs: map[byte]int{'&': api.And}},
		{signs: map[byte]int{'U': api.Until, 'R': api.Release}, right: true},
	}
	ahead := map[byte]int{'!': api.Not, 'X': api.Next, 'F': api.Finally, 'G': api.Globally}
	var read func(row int) api.Form
	var one func() api.Form
	bracket := func() api.Form {
		f := read(0) // it has passed the blanks behind it, too
		r.exact(")")
		return f
	}
	one = func() api.Form {
		c := r.peek()
		if op, ok := ahead[c]; ok {
			return api.Form{Op: op, Kids: []api.Form{r.within(one)}}
		}
		if c == '(' {
			return r.within(bracket)
		}
		return r.word()
	}
	read = func(row int) api.Form {
		if row == len(levels) {
			return one()
		}
		here := levels[row]
		f := read(row + 1)
		for {
			op, ok := here.signs[r.peek()]
			if !ok {
				return f
			}
			r.at++
			r.exact(here.rest)
			if here.right {
				return api.Form{Op: op, Kids: []api.Form{f, read(row)}}
			}
			f = api.Form{Op: op, Kids: []api.Form{f, read(row + 1)}}
		}
	}
	f := read(0)
	if r.at < len(r.text) {
		r.fail(api.ErrForm)
	}
	return f
}
