package mill

import "astrolabe/api"

// Quats are the steps of layer 10, upon those of layer 8.
type Quats[V any] struct{ Roots[V] }

// product is what two numbers are to be multiplied to, and the operation by which a sum takes it in.
type product[V any] struct {
	op   int
	a, b V
}

// plus: the product, to be added.
func plus[V any](a V, b V) product[V] { return product[V]{api.OpAdds, a, b} }

// minus: the product, to be taken away.
func minus[V any](a V, b V) product[V] { return product[V]{api.OpSubs, a, b} }

// total: a number, and the products behind it, from the left on.
func total[V any](m Mill[V], from V, products ...product[V]) V {
	for _, p := range products {
		from = m.Two(p.op, from, m.Two(api.OpMulq, p.a, p.b))
	}
	return from
}

// Mul: p by q.
func (m Quats[V]) Mul(p [4]V, q [4]V) [4]V {
	return [4]V{
		total(m.Mill, m.mulq(p[0], q[0]), minus(p[1], q[1]), minus(p[2], q[2]), minus(p[3], q[3])),
		total(m.Mill, m.mulq(p[0], q[1]), plus(p[1], q[0]), plus(p[2], q[3]), minus(p[3], q[2])),
		total(m.Mill, m.mulq(p[0], q[2]), minus(p[1], q[3]), plus(p[2], q[0]), plus(p[3], q[1])),
		total(m.Mill, m.mulq(p[0], q[3]), plus(p[1], q[2]), minus(p[2], q[1]), plus(p[3], q[0])),
	}
}

// Conj: p, turned the other way round.
func (m Quats[V]) Conj(p [4]V) [4]V {
	return [4]V{p[0], m.One(api.OpNeg, p[1]), m.One(api.OpNeg, p[2]), m.One(api.OpNeg, p[3])}
}

// Norm: the squares of p's parts, together.
func (m Quats[V]) Norm(p [4]V) V {
	return total(m.Mill, m.mulq(p[0], p[0]), plus(p[1], p[1]), plus(p[2], p[2]), plus(p[3], p[3]))
}

// Unit: p, brought to the norm 1.
func (m Quats[V]) Unit(p [4]V) [4]V {
	z, h := m.Rsqrt(m.Norm(p))
	for i, part := range p {
		p[i] = m.Scale(part, z, h)
	}
	return p
}

// Rate: q by w as parts 1 to 3. Part 0, which w has not, is spared.
func (m Quats[V]) Rate(q [4]V, w [3]V) [4]V {
	return [4]V{
		total(m.Mill, m.Word(0), minus(q[1], w[0]), minus(q[2], w[1]), minus(q[3], w[2])),
		total(m.Mill, m.mulq(q[0], w[0]), plus(q[2], w[2]), minus(q[3], w[1])),
		total(m.Mill, m.mulq(q[0], w[1]), minus(q[1], w[2]), plus(q[3], w[0])),
		total(m.Mill, m.mulq(q[0], w[2]), plus(q[1], w[1]), minus(q[2], w[0])),
	}
}
