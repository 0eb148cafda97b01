// Package mill holds the steps that several layers share. They are written once upon a mill, and are done with words, or with whatever else a mill reckons with.
package mill

import "astrolabe/alu"

// Mill does the operations of the core with numbers of one kind.
type Mill[V any] interface {
	// Word: the number that is this word.
	Word(x int32) V
	// One: what an operation reckons of a alone.
	One(op int, a V) V
	// Two: what an operation reckons of a and b.
	Two(op int, a V, b V) V
}

// Words is the mill of words: it reckons as layer 7 does, and 0 where that reckons nothing.
type Words struct{}

// Word: the word itself.
func (Words) Word(x int32) int32 { return x }

// One: layer 7's Do of a alone.
func (w Words) One(op int, a int32) int32 { return w.Two(op, a, 0) }

// Two: layer 7's Do of a and b.
func (Words) Two(op int, a int32, b int32) int32 {
	x, _ := alu.Do(op, a, b)
	return x
}
