package ops

import (
	"math"
	"strings"
	"testing"

	"astrolabe/api"
)

// operation is what the chapter says of one.
type operation struct {
	op      int
	name    string
	shape   string
	cost    int
	reckons bool
	leaks   bool
}

// operations are all of them, in order.
var operations = []operation{
	{api.OpAdd, "add", "dab-", 1, true, false},
	{api.OpSub, "sub", "dab-", 1, true, false},
	{api.OpAdds, "adds", "dab-", 1, true, false},
	{api.OpSubs, "subs", "dab-", 1, true, false},
	{api.OpAnd, "and", "dab-", 1, true, false},
	{api.OpOr, "or", "dab-", 1, true, false},
	{api.OpXor, "xor", "dab-", 1, true, false},
	{api.OpBic, "bic", "dab-", 1, true, false},
	{api.OpShl, "shl", "dab-", 1, true, false},
	{api.OpShr, "shr", "dab-", 1, true, false},
	{api.OpSar, "sar", "dab-", 1, true, false},
	{api.OpRol, "rol", "dab-", 1, true, false},
	{api.OpSlt, "slt", "dab-", 1, true, false},
	{api.OpSltu, "sltu", "dab-", 1, true, false},
	{api.OpSeq, "seq", "dab-", 1, true, false},
	{api.OpMin, "min", "dab-", 1, true, false},
	{api.OpMax, "max", "dab-", 1, true, false},
	{api.OpMul, "mul", "dab-", 3, true, false},
	{api.OpMulh, "mulh", "dab-", 3, true, false},
	{api.OpMulq, "mulq", "dab-", 3, true, false},
	{api.OpMulr, "mulr", "dab-", 3, true, false},
	{api.OpDiv, "div", "dab-", 2, true, true},
	{api.OpRem, "rem", "dab-", 2, true, true},
	{api.OpClz, "clz", "da--", 1, true, false},
	{api.OpNeg, "neg", "da--", 1, true, false},
	{api.OpAbs, "abs", "da--", 1, true, false},
	{api.OpMask, "mask", "da--", 1, true, false},
	{api.OpSign, "sign", "da--", 1, true, false},
	{api.OpHalf, "half", "da--", 1, true, false},
	{api.OpHigh, "high", "da--", 1, true, false},
	{api.OpAddi, "addi", "da-s", 1, false, false},
	{api.OpOri, "ori", "da-u", 1, false, false},
	{api.OpLui, "lui", "d--u", 1, false, false},
	{api.OpLw, "lw", "da-u", 2, false, true},
	{api.OpSw, "sw", "da-u", 2, false, true},
	{api.OpBeq, "beq", "da-u", 1, false, true},
	{api.OpBne, "bne", "da-u", 1, false, true},
	{api.OpBlt, "blt", "da-u", 1, false, true},
	{api.OpJump, "jump", "---u", 3, false, false},
	{api.OpJal, "jal", "d--u", 3, false, false},
	{api.OpJr, "jr", "-a--", 3, false, true},
	{api.OpNop, "nop", "----", 1, false, false},
	{api.OpHalt, "halt", "----", 1, false, false},
}

// others are numbers that are no operations', also such as are one's when they are cut to 8, 16 or 32 bits.
func others() []int {
	l := []int{math.MinInt, math.MinInt + 1, math.MinInt32, math.MinInt32 - 1, math.MaxInt, math.MaxInt - 1, math.MaxInt32, math.MaxInt32 + 1}
	for n := 0; n >= -300; n-- {
		l = append(l, n)
	}
	for n := 44; n <= 300; n++ {
		l = append(l, n)
	}
	for _, n := range []int{8, 16, 31, 32, 62} {
		for op := 1; op <= 43; op++ {
			l = append(l, 1<<n+op, -1<<n+op)
		}
	}
	return append(l, math.MinInt+20, math.MinInt+43)
}

func TestOperationsAreNumberedFromOneOn(t *testing.T) {
	if len(operations) != 43 {
		t.Fatalf("%d operations, want 43", len(operations))
	}
	for i, o := range operations {
		if o.op != i+1 {
			t.Errorf("%s is %d, want %d", o.name, o.op, i+1)
		}
	}
}

// P6.1

func TestNameOfOperations(t *testing.T) {
	for _, o := range operations {
		if got := Name(o.op); got != o.name {
			t.Errorf("Name(%d) = %q, want %q", o.op, got, o.name)
		}
	}
}

func TestNameOfOtherNumbers(t *testing.T) {
	for _, n := range others() {
		if got := Name(n); got != "" {
			t.Errorf("Name(%d) = %q, want nothing", n, got)
		}
	}
}

func TestFindOfNames(t *testing.T) {
	for _, o := range operations {
		if got := Find(o.name); got != o.op {
			t.Errorf("Find(%q) = %d, want %d", o.name, got, o.op)
		}
		// The letters count, not where they stand in memory.
		if got := Find(string([]byte(o.name))); got != o.op {
			t.Errorf("Find of a copy of %q = %d, want %d", o.name, got, o.op)
		}
	}
}

// isName: is it one of the 43?
func isName(text string) bool {
	for _, o := range operations {
		if o.name == text {
			return true
		}
	}
	return false
}

// findsNothing: Find of a text that is no name answers 0.
func findsNothing(t *testing.T, text string) {
	t.Helper()
	if isName(text) {
		t.Fatalf("%q is a name: the test is wrong", text)
	}
	if got := Find(text); got != 0 {
		t.Errorf("Find(%q) = %d, want 0", text, got)
	}
}

func TestFindOfOtherTexts(t *testing.T) {
	for _, text := range []string{
		"", " ", "  ", "\n", "\x00", "-", "0", "1", "20", "43", "op", "load", "store", "call", "ret", "addu", "addis", "OpAdd", "mulq.",
		"a", "d", "dd", "ad", "hal", "alt", "mu", "ul", "lt", "lu", "be", "jum", "no", "halting", "\xff", "\u00e4dd", "add\u0301", "\uff41dd",
		strings.Repeat("add", 1000), strings.Repeat(" ", 1000), strings.Repeat("x", 1<<20),
	} {
		findsNothing(t, text)
	}
}

func TestFindOfPartsOfNames(t *testing.T) {
	for _, o := range operations {
		for from := range len(o.name) + 1 {
			for to := from; to <= len(o.name); to++ {
				if part := o.name[from:to]; !isName(part) {
					findsNothing(t, part)
				}
			}
		}
	}
}

func TestFindOfNamesWithOtherBytes(t *testing.T) {
	for _, o := range operations {
		for b := range 256 {
			for _, text := range []string{string([]byte{byte(b)}) + o.name, o.name + string([]byte{byte(b)})} {
				if !isName(text) {
					findsNothing(t, text)
				}
			}
		}
		findsNothing(t, "  "+o.name)
		findsNothing(t, o.name+"  ")
		findsNothing(t, " "+o.name+" ")
		findsNothing(t, o.name+"\r\n")
	}
}

func TestFindOfOtherCase(t *testing.T) {
	for _, o := range operations {
		findsNothing(t, strings.ToUpper(o.name))
		for i := range o.name {
			findsNothing(t, o.name[:i]+strings.ToUpper(o.name[i:i+1])+o.name[i+1:])
		}
	}
}

func TestFindOfTwoNames(t *testing.T) {
	for _, a := range operations {
		for _, b := range operations {
			for _, between := range []string{"", " ", ",", "\n", "\x00"} {
				findsNothing(t, a.name+between+b.name)
			}
		}
	}
}

func TestFindOfAllNamesInOneText(t *testing.T) {
	var all []string
	for _, o := range operations {
		all = append(all, o.name)
	}
	for n := 2; n <= len(all); n++ {
		findsNothing(t, strings.Join(all[:n], " "))
		findsNothing(t, strings.Join(all[len(all)-n:], " "))
	}
}

// P6.2

func TestShapeOfOperations(t *testing.T) {
	for _, o := range operations {
		if got := Shape(o.op); got != o.shape {
			t.Errorf("Shape(%d), %s, = %q, want %q", o.op, o.name, got, o.shape)
		}
	}
}

func TestShapeOfOtherNumbers(t *testing.T) {
	for _, n := range others() {
		if got := Shape(n); got != "" {
			t.Errorf("Shape(%d) = %q, want nothing", n, got)
		}
	}
}

// P6.3

func TestCostOfOperations(t *testing.T) {
	for _, o := range operations {
		if got := Cost(o.op); got != o.cost {
			t.Errorf("Cost(%d), %s, = %d, want %d", o.op, o.name, got, o.cost)
		}
	}
}

func TestCostOfOtherNumbers(t *testing.T) {
	for _, n := range others() {
		if got := Cost(n); got != 0 {
			t.Errorf("Cost(%d) = %d, want 0", n, got)
		}
	}
}

// P6.4

func TestReckonsAndLeaksOfOperations(t *testing.T) {
	for _, o := range operations {
		if got := Reckons(o.op); got != o.reckons {
			t.Errorf("Reckons(%d), %s, = %t, want %t", o.op, o.name, got, o.reckons)
		}
		if got := Leaks(o.op); got != o.leaks {
			t.Errorf("Leaks(%d), %s, = %t, want %t", o.op, o.name, got, o.leaks)
		}
	}
}

func TestReckonsAndLeaksOfOtherNumbers(t *testing.T) {
	for _, n := range others() {
		if Reckons(n) {
			t.Errorf("Reckons(%d)", n)
		}
		if Leaks(n) {
			t.Errorf("Leaks(%d)", n)
		}
	}
}

// P6.5

func TestEachOperationIsThatOfItsName(t *testing.T) {
	named := map[string]int{}
	for op := 1; op <= 43; op++ {
		name := Name(op)
		if got := Find(name); got != op {
			t.Errorf("Find(Name(%d)) = %d by way of %q", op, got, name)
		}
		if other, ok := named[name]; ok {
			t.Errorf("%d and %d are both named %q", other, op, name)
		}
		named[name] = op
	}
	for _, o := range operations {
		if got := Name(Find(o.name)); got != o.name {
			t.Errorf("Name(Find(%q)) = %q", o.name, got)
		}
	}
	for _, n := range others() {
		if got := Find(Name(n)); got != 0 {
			t.Errorf("Find(Name(%d)) = %d, want 0", n, got)
		}
	}
}

// The chapter's examples.

func TestExamples(t *testing.T) {
	if got := Name(20); got != "mulq" {
		t.Errorf("Name(20) = %q, want mulq", got)
	}
	if got := Shape(35); got != "da-u" {
		t.Errorf("Shape(35) = %q, want da-u", got)
	}
	if got := Find("halt"); got != 43 {
		t.Errorf("Find(halt) = %d, want 43", got)
	}
}
