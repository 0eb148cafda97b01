// Package mill holds the steps that several layers share. They are written once upon a mill, and are done with words, or with whatever else a mill reckons with.
package mill

import (
	"astrolabe/alu"
	"astrolabe/api"
)

// Mill does the operations of the core with numbers of one kind.
type Mill[V any] interface {
	// Word: the number that is this word.
	Word(x int32) V
	// One: what an operation reckons of a alone.
	One(op int, a V) V
	// Two: what an operation reckons of a and b.
	Two(op int, a V, b V) V
}

// Looper is a mill that also does again and again what it is handed on.
type Looper[V any] interface {
	Mill[V]
	// Item: number i of the list, from 0 on.
	Item(l []int32, i V) V
	// Again: what three numbers come to be when do is done n times; it gets how often it was done ahead, and what they are.
	Again(n int, from [3]V, do func(i V, at [3]V) [3]V) [3]V
}

// Words is the mill of words: it reckons as layer 7 does, and 0 where that reckons nothing.
type Words struct{}

// Word: the word itself.
func (Words) Word(x int32) int32 { return x }

// One: layer 7's Do of a alone.
func (w Words) One(op int, a int32) int32 { return w.Two(op, a, 0) }

// Two: layer 7's Do of a and b.
func (Words) Two(op int, a int32, b int32) int32 {
	x, _ := alu.Do(op, a, b)
	return x
}

// Item: number i of the list, which has one.
func (Words) Item(l []int32, i int32) int32 { return l[i] }

// Again: what is done is called once each time.
func (Words) Again(n int, from [3]int32, do func(i int32, at [3]int32) [3]int32) [3]int32 {
	for i := range n {
		from = do(int32(i), from)
	}
	return from
}

// by: what an operation reckons of a and a word.
func by[V any](m Mill[V], op int, a V, n int32) V { return m.Two(op, a, m.Word(n)) }

// lift: x, brought up by t places, and down by two, so that it is below 1.
func lift[V any](m Mill[V], x V, t V) V {
	return by(m, api.OpShr, m.Two(api.OpShl, x, t), 2)
}

// flip: v, or what is left of 0 without it where d is -1.
func flip[V any](m Mill[V], v V, d V) V {
	return m.Two(api.OpSub, m.Two(api.OpXor, v, d), d)
}
