package mill

import "astrolabe/api"

// shortened is how long a place is at first that is 1 long behind all turns, each of which makes it longer.
const shortened = 652032874

// The numbers that come to be others turn by turn.
const (
	across = iota // x
	up            // y
	angle         // a, or b
)

// Angles are those by which is turned, one after the other: each one's tangent is half of that of the one ahead.
func Angles() []int32 {
	l := []int32{421657428, 248918915, 131521918, 66762579, 33510843, 16771758, 8387925, 4194219, 2097141, 1048575}
	for i := len(l); i < api.Steps; i++ {
		// As far as a word can tell, angles as small as these are what their tangents are.
		l = append(l, 1<<(29-i))
	}
	return l
}

// Turns are the steps of layer 9, upon the mill that they are made of.
type Turns[V any] struct{ Looper[V] }

// Vector: x and y, turned so that y comes to be near to 0, and by which angle.
func (t Turns[V]) Vector(y V, x V) (V, V, V) {
	at := t.turned([3]V{x, y, t.Word(0)}, up, api.OpAdd, api.OpSub)
	return at[across], at[up], at[angle]
}

// Angle: the angle of a place.
func (t Turns[V]) Angle(y V, x V) V {
	high, wide := t.One(api.OpAbs, y), t.One(api.OpAbs, x)
	g, l := t.Two(api.OpMax, wide, high), t.Two(api.OpMin, wide, high)
	s := by(t.Looper, api.OpSub, t.One(api.OpClz, g), 1)
	_, _, a := t.Vector(lift(t.Looper, l, s), lift(t.Looper, g, s))
	a = t.left(t.Word(api.Right), a, t.less(wide, high))
	a = t.left(t.Word(api.Pi), a, t.One(api.OpSign, x))
	return flip(t.Looper, a, t.One(api.OpSign, y))
}

// Wave: the sine and the cosine of an angle.
func (t Turns[V]) Wave(a V) (V, V) {
	beyond := t.less(t.Word(api.Right), t.One(api.OpAbs, a))
	half := flip(t.Looper, t.Word(api.Pi), t.One(api.OpSign, a))
	b := t.left(half, a, beyond)
	at := t.turned([3]V{t.Word(shortened), t.Word(0), b}, angle, api.OpSub, api.OpAdd)
	return at[up], flip(t.Looper, at[across], beyond)
}

// turned: x, y and an angle behind all turns, each of which brings the one that is led towards 0. What is told of ahead is done to x and to the angle, what is told of back, the contrary, to y.
func (t Turns[V]) turned(from [3]V, led int, ahead int, back int) [3]V {
	angles := Angles()
	return t.Again(api.Steps, from, func(i V, at [3]V) [3]V {
		d := t.One(api.OpSign, at[led])
		part := func(of int) V { return flip(t.Looper, t.Two(api.OpSar, at[of], i), d) }
		return [3]V{
			across: t.Two(ahead, at[across], part(up)),
			up:     t.Two(back, at[up], part(across)),
			angle:  t.Two(ahead, at[angle], flip(t.Looper, t.Item(angles, i), d)),
		}
	})
}

// less: -1 where a is less than b, else 0.
func (t Turns[V]) less(a V, b V) V {
	return t.One(api.OpMask, t.Two(api.OpSlt, a, b))
}

// left: v, or what is left of whole without it where m is -1.
func (t Turns[V]) left(whole V, v V, m V) V {
	return t.Two(api.OpAdd, t.Two(api.OpAnd, whole, m), flip(t.Looper, v, m))
}
