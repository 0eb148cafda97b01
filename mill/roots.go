package mill

import "astrolabe/api"

// The lines on which z begins: over all that a number is brought up to they are so near to what is sought that a few steps are enough.
const (
	rsqrtFrom  = 1184766729
	rsqrtSlope = 715827883
	recipFrom  = 1564549212
)

const (
	steps = 4  // how often z is mended
	even  = 30 // the bits that an even number of places, below 32, may have
)

// Roots are the steps of layer 8, upon the mill that it is made of.
type Roots[V any] struct{ Mill[V] }

// Level: x, brought up by an even number of places, and half of that number.
func (r Roots[V]) Level(x V) (u V, h V) {
	t := r.Two(api.OpAnd, r.One(api.OpClz, x), r.Word(even))
	return lift(r.Mill, x, t), by(r.Mill, api.OpShr, t, 1)
}

// Rsqrt: z, which by 2^h is 1 by the root of x, and h.
func (r Roots[V]) Rsqrt(x V) (z V, h V) {
	u, h := r.Level(x)
	z = r.Two(api.OpSubs, r.Word(rsqrtFrom), r.mulq(r.Word(rsqrtSlope), u))
	for range steps {
		// u is a quarter of x brought up: what should be 1 is 4 times the product.
		e := r.lack(by(r.Mill, api.OpShl, r.mulq(u, r.mulq(z, z)), 2))
		z = r.Two(api.OpAdds, z, by(r.Mill, api.OpSar, r.mulq(z, e), 1))
	}
	return z, h
}

// Scale: v by z and 2^h.
func (r Roots[V]) Scale(v V, z V, h V) V {
	return r.Two(api.OpShl, r.mulq(v, z), h)
}

// Sqrt: the root of x, which is x by 1 by its root.
func (r Roots[V]) Sqrt(x V) V {
	z, h := r.Rsqrt(x)
	return r.Scale(x, z, h)
}

// Recip: z, which by 2^h is 1 by x, and h.
func (r Roots[V]) Recip(x V) (z V, h V) {
	t := r.One(api.OpClz, x)
	v := lift(r.Mill, x, t)
	z = r.Two(api.OpSubs, r.Word(recipFrom), v)
	for range steps {
		// z is half of 1 by v, which itself may be no word: what should be 1 is twice the product.
		e := r.lack(by(r.Mill, api.OpShl, r.mulq(v, z), 1))
		z = r.Two(api.OpAdds, z, r.mulq(z, e))
	}
	return z, by(r.Mill, api.OpSub, t, 1)
}

// lack: what a product that should be 1 lacks.
func (r Roots[V]) lack(product V) V {
	return r.Two(api.OpSubs, r.Word(api.One), product)
}

// mulq: the product of Q2.30.
func (r Roots[V]) mulq(a V, b V) V { return r.Two(api.OpMulq, a, b) }
