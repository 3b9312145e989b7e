package run

import (
	"strconv"

	"eden/ant"
	"eden/api"
	"eden/chips"
	"eden/grow"
	"eden/hash"
	"eden/line"
	"eden/onto"
	"eden/plane"
	"eden/rules"
	"eden/sand"
)

// mostJump is how far a line may jump; a space is asked for no more of what does not come again.
const mostJump = 12

// become takes another rule, if the text is one.
func (s *session) become(text string) (string, error) {
	r, _, err := rules.Parse(text)
	if err != nil {
		return "", err
	}
	s.rule = r
	return rules.Print(r)
}

func (s *session) step(in *words) (string, error) {
	cells, n := in.cells(), in.number()
	in.end()
	out, err := line.Run(s.rule, cells, n)
	return digits(out), err
}

func (s *session) onto(in *words) (string, error) {
	in.end()
	yes, orphan, err := onto.Onto(s.rule)
	if yes {
		return "yes", err
	}
	return "no " + digits(orphan), err
}

func (s *session) one(in *words) (string, error) {
	in.end()
	yes, _, _, err := onto.One(s.rule)
	if yes {
		return "yes", err
	}
	return "no", err
}

func (s *session) grow(in *words) (string, error) {
	p, n := in.pattern(), in.number()
	in.end()
	out, right, down, err := plane.Grow(s.rule, p, n)
	return drawn(out) + " " + joined(" ", right, down), err
}

func (s *session) again(in *words) (string, error) {
	p, most := in.pattern(), in.number()
	in.end()
	a, err := plane.Again(s.rule, p, most)
	return joined(" ", a.Period, a.Right, a.Down), err
}

func (s *session) parent(in *words) (string, error) {
	p := in.pattern()
	in.end()
	out, err := plane.Parent(s.rule, p)
	return drawn(out), err
}

func (s *session) jump(in *words) (string, error) {
	p, k := in.pattern(), in.number()
	in.end()
	if k > mostJump {
		fail()
	}
	space, err := hash.New(s.rule)
	if err != nil {
		return "", err
	}
	if err := space.Put(p, 0, 0); err != nil {
		return "", err
	}
	if err := space.Jump(k); err != nil {
		return "", err
	}
	right, down, wide, high := space.Box()
	return joined(" ", space.Living(), right, down, wide, high), nil
}

func (s *session) walk(in *words) (string, error) {
	n := in.number()
	in.end()
	spots, w, err := ant.Run(s.rule, nil, api.Walker{}, n)
	return joined(" ", w.Right, w.Down, w.Facing, len(spots)), err
}

func settle(in *words) (string, error) {
	sink, pile, g := in.number(), in.numbers(), in.graph()
	out, err := sand.Settle(g, sink, pile)
	return joined(",", out.Chips...), err
}

func rank(in *words) (string, error) {
	divisor, g := in.signed(), in.graph()
	out, _, err := chips.Rank(g, divisor)
	return strconv.Itoa(out), err
}

func word(in *words) (string, error) {
	n := in.number()
	return grow.Grow(in.rest(), "a", n)
}
