package quat_test

import (
	"math"
	"slices"
	"strconv"
	"strings"
	"testing"

	"astrolabe/api"
	"astrolabe/quat"
	"astrolabe/root"
)

const (
	wordMin = -1 << 31
	wordMax = 1<<31 - 1
	one     = 1 << 30
	half    = 1 << 29
	root2   = 759250125 // 2^30 by the root of 2
)

// extremes are words whose products are cut, or lie in the midst of two, and those whose sums are cut.
var extremes = []int32{0, 1, -1, 3, -3, half, -half, one, -one, 3 << 29, -3 << 29, wordMax, wordMax - 1, wordMin, wordMin + 1, wordMin + 2, 1 << 15, -3 << 15, 7 << 14}

// words: the extremes, those at and around each power of 2, and some without a pattern, of all lengths.
func words() []int32 {
	l := append([]int32{5, -5, 23170, 23171, 40132, 40133, root2, -root2, 0x55555555, -0x55555556}, extremes...)
	for n := range 31 {
		p := int32(1) << n
		l = append(l, p, p-1, p+1, -p, -p-1, -p+1)
	}
	x := int32(1)
	for i := range 600 {
		x = x*1103515245 + 12345
		l = append(l, x>>(i%31))
	}
	return l
}

// picks are numbers from 0 to less than n, without a pattern.
func picks() func(n int) int {
	x := uint64(1)
	return func(n int) int {
		x = x*6364136223846793005 + 1442695040888963407
		return int(x>>33) % n
	}
}

// some: quaternions of extremes, of words, and of both.
func some(n int) []api.Quat {
	pick, all := picks(), words()
	l := make([]api.Quat, n)
	for i := range l {
		for k := range l[i] {
			from := all
			if i%3 == 0 || i%3 == 1 && pick(2) == 0 {
				from = extremes
			}
			l[i][k] = from[pick(len(from))]
		}
	}
	return l
}

// pair is two quaternions; for Rate the second one's first three parts are the turning.
type pair struct{ p, q api.Quat }

func pairs() []pair {
	s := some(60000)
	var l []pair
	for i := 0; i < len(s); i += 2 {
		l = append(l, pair{s[i], s[i+1]})
	}
	return l
}

// turning are the first three parts.
func turning(q api.Quat) [3]int32 { return [3]int32(q[:3]) }

// The reckoning of the tests is that of whole numbers of 64 bits, by sums, products, quotients and rests: no layer judges itself. Just roots are layer 8's, whose own tests hold them.

// cut is x, or the word that is nearest to it.
func cut(x int64) int64 { return max(wordMin, min(x, wordMax)) }

// signed is the word that is x modulo 2^32.
func signed(x int64) int64 {
	const words = 1 << 32
	r := (x%words + words) % words
	if r > wordMax {
		r -= words
	}
	return r
}

// below is x by 2^30, rounded down, and the rest.
func below(x int64) (int64, int64) {
	q := x / one
	if q*one > x {
		q--
	}
	return q, x - q*one
}

// nearest is x by 2^30: the nearest whole number, of two as near the greater one.
func nearest(x int64) int64 {
	q, r := below(x)
	if r >= one-r {
		q++
	}
	return q
}

// term is a product of a sum: the sign ahead of it, the part of the one, the part of the other.
type term struct {
	sign int64
	a, b int
}

// sum are the terms of one of the chapter's.
func sum(text string) []term {
	var l []term
	sign := int64(1)
	for _, f := range strings.Fields(text) {
		switch f {
		case "+":
			sign = 1
		case "-":
			sign = -1
		case "0":
			// Each sum begins with it.
		default:
			l = append(l, term{sign, int(f[1] - '0'), int(f[3] - '0')})
		}
	}
	return l
}

func mulSums() [4][]term {
	return [4][]term{
		sum("p0q0 - p1q1 - p2q2 - p3q3"),
		sum("p0q1 + p1q0 + p2q3 - p3q2"),
		sum("p0q2 - p1q3 + p2q0 + p3q1"),
		sum("p0q3 + p1q2 - p2q1 + p3q0"),
	}
}

func rateSums() [4][]term {
	return [4][]term{
		sum("0 - q1w0 - q2w1 - q3w2"),
		sum("q0w0 + q2w2 - q3w1"),
		sum("q0w1 - q1w2 + q3w0"),
		sum("q0w2 + q1w1 - q2w0"),
	}
}

func normSum() []term { return sum("p0p0 + p1p1 + p2p2 + p3p3") }

// how is a way to reckon a sum.
type how func(l []term, p, q api.Quat) int64

// chapter is the chapter's way: each product is rounded and cut by itself, each sum is cut by itself, from the left on.
func chapter(l []term, p, q api.Quat) int64 {
	s := int64(0)
	for _, t := range l {
		s = cut(s + t.sign*cut(nearest(int64(p[t.a])*int64(q[t.b]))))
	}
	return s
}

// by is the chapter's way, but for what a term of a product adds.
func by(add func(sign, product int64) int64) how {
	return func(l []term, p, q api.Quat) int64 {
		s := int64(0)
		for _, t := range l {
			s = cut(s + add(t.sign, int64(p[t.a])*int64(q[t.b])))
		}
		return s
	}
}

// rounded are ways to round that are not the chapter's.
func rounded() map[string]how {
	return map[string]how{
		"down": by(func(sign, product int64) int64 {
			q, _ := below(product)
			return sign * cut(q)
		}),
		"up": by(func(sign, product int64) int64 {
			q, _ := below(-product)
			return sign * cut(-q)
		}),
		"to 0": by(func(sign, product int64) int64 { return sign * cut(product/one) }),
		"together": func(l []term, p, q api.Quat) int64 {
			whole, rests := int64(0), int64(0)
			for _, t := range l {
				w, r := below(t.sign * int64(p[t.a]) * int64(q[t.b]))
				whole, rests = whole+w, rests+r
			}
			return cut(whole + nearest(rests))
		},
	}
}

// halved are ways to round a half that are not the chapter's.
func halved() map[string]how {
	return map[string]how{
		"halves to the lesser": by(func(sign, product int64) int64 { return sign * cut(-nearest(-product)) }),
		"halves from 0": by(func(sign, product int64) int64 {
			if product < 0 {
				return sign * cut(-nearest(-product))
			}
			return sign * cut(nearest(product))
		}),
		"halves to the even one": by(func(sign, product int64) int64 {
			n := nearest(product)
			if _, r := below(product); r == half && n%2 != 0 {
				n--
			}
			return sign * cut(n)
		}),
		"with the sign": by(func(sign, product int64) int64 { return cut(nearest(sign * product)) }),
	}
}

// uncut are ways to cut that are not the chapter's, of sums that have terms with either sign.
func uncut() map[string]how {
	return map[string]how{
		"cut at the end": func(l []term, p, q api.Quat) int64 {
			s := int64(0)
			for _, t := range l {
				s += t.sign * cut(nearest(int64(p[t.a])*int64(q[t.b])))
			}
			return cut(s)
		},
		"products not cut":  by(func(sign, product int64) int64 { return sign * nearest(product) }),
		"products go round": by(func(sign, product int64) int64 { return sign * signed(nearest(product)) }),
	}
}

// round is the way of sums that go round.
func round(l []term, p, q api.Quat) int64 {
	s := int64(0)
	for _, t := range l {
		s = signed(s + t.sign*cut(nearest(int64(p[t.a])*int64(q[t.b]))))
	}
	return s
}

// orders are all other orders of a sum's terms, but for that of the first two of which none is taken away: it is the same.
func orders(l []term) [][]term {
	var all [][]term
	var lay func(done, left []term)
	lay = func(done, left []term) {
		if len(left) == 0 {
			same := slices.Equal(done[2:], l[2:]) && (done[0] == l[0] || l[0].sign+l[1].sign == 2)
			if !same {
				all = append(all, done)
			}
		}
		for i := range left {
			lay(append(slices.Clone(done), left[i]), slices.Delete(slices.Clone(left), i, i+1))
		}
	}
	lay(nil, l)
	return all
}

// tells holds that another way comes to another number at one of the pairs, where what is called answers the chapter's.
func tells(t *testing.T, what string, at []pair, l []term, other func(x pair) int64, call func(x pair) int32) {
	t.Helper()
	for _, x := range at {
		if want := chapter(l, x.p, x.q); other(x) != want {
			if got := call(x); int64(got) != want {
				t.Errorf("%s: of %v it is %d, want %d", what, x, got, want)
			}
			return
		}
	}
	t.Errorf("%s is told by no pair", what)
}

// tellsOthers holds it for all other ways to reckon the four sums.
func tellsOthers(t *testing.T, sums [4][]term, call func(x pair) api.Quat) {
	t.Helper()
	all := pairs()
	for n, l := range sums {
		part := func(x pair) int32 { return call(x)[n] }
		ways := []map[string]how{rounded(), halved(), uncut(), {"sums go round": round}}
		for _, m := range ways {
			for name, other := range m {
				tells(t, "part "+strconv.Itoa(n)+" "+name, all, l, func(x pair) int64 { return other(l, x.p, x.q) }, part)
			}
		}
		for _, o := range orders(l) {
			tells(t, "part "+strconv.Itoa(n)+" in another order", all, l, func(x pair) int64 { return chapter(o, x.p, x.q) }, part)
		}
	}
}

// reckoned are the four sums.
func reckoned(sums [4][]term, p, q api.Quat) api.Quat {
	var to api.Quat
	for n, l := range sums {
		to[n] = int32(chapter(l, p, q))
	}
	return to
}

// only is the quaternion whose part n is x, and the others 0.
func only(n int, x int32) api.Quat {
	var q api.Quat
	q[n] = x
	return q
}

// to is where the product of two parts goes, and with which sign.
type to struct {
	sign int64
	part int
}

// products are those of 1, i, j and k by one another.
func products() [4][4]to {
	return [4][4]to{
		{{1, 0}, {1, 1}, {1, 2}, {1, 3}},
		{{1, 1}, {-1, 0}, {1, 3}, {-1, 2}},
		{{1, 2}, {-1, 3}, {-1, 0}, {1, 1}},
		{{1, 3}, {1, 2}, {-1, 1}, {-1, 0}},
	}
}

// checkProducts holds the product of part a and part b, all others being 0, by words whose products are rounded to either side, lie in the midst of two, or are cut.
func checkProducts(t *testing.T, a, b int, call func(x, y int32) api.Quat) {
	t.Helper()
	at := products()[a][b]
	for _, x := range words()[:60] {
		for _, y := range extremes {
			want := only(at.part, int32(cut(at.sign*cut(nearest(int64(x)*int64(y))))))
			if got := call(x, y); got != want {
				t.Fatalf("part %d of %d by part %d of %d: %d, want %d", a, x, b, y, got, want)
			}
		}
	}
}

// checkOnTheirWay holds each part by products of -1.5, 0 and 1.5 in all ways: three of four are beyond a word, and come back.
func checkOnTheirWay(t *testing.T, sums [4][]term, call func(x pair) api.Quat) {
	t.Helper()
	const step = 3 << 29
	for n, l := range sums {
		ways := 1
		for range l {
			ways *= 3
		}
		for w := range ways {
			var x pair
			want, left := int64(0), w
			for _, f := range l {
				d := int64(left%3 - 1)
				left /= 3
				x.p[f.a], x.q[f.b] = step, int32(d*f.sign*one)
				want = cut(want + d*step)
			}
			if got := call(x)[n]; int64(got) != want {
				t.Errorf("part %d of %d: %d, want %d", n, x, got, want)
			}
		}
	}
}

// P10.1

func mul(x pair) api.Quat { return quat.Mul(x.p, x.q) }

func TestMulExamples(t *testing.T) {
	for _, c := range [][3]api.Quat{
		{{3, 5, 7, 11}, {one, one, one, one}, {-20, 4, 16, 12}},
		{{one, one, one, one}, {3, 5, 7, 11}, {-20, 12, 4, 16}},
		{{}, {wordMin, wordMax, 5, -7}, {}},
		{{wordMin, wordMax, 5, -7}, {}, {}},
		{{123456789, -987654321, 555555555, -333333333}, {-456789012, 234567890, -876543210, 1020304050}, {933509399, 702927963, 528554920, 944018979}},
		{{root2, root2, 0, 0}, {root2, 0, -root2, 0}, {half, half, -half, -half}},
		// halves: each product goes up by itself
		{{1, 2, 3, 4}, {half, half, half, half}, {-4, 2, 4, 2}},
		{{half, half, half, half}, {1, 3, 5, 7}, {-8, 4, 2, 6}},
		{{-1, -3, -5, -7}, {half, half, half, half}, {6, 0, -4, -2}},
		{{half, half, half, half}, {-1, 3, -5, 7}, {-4, 8, -4, 0}},
		{{65536, -65536, 32768, 16384}, {16384, 32768, -65536, 65536}, {4, 4, 2, 7}},
		// products that are cut
		{{wordMin}, {wordMin}, {wordMax}},
		{{0, wordMin}, {0, wordMin}, {-wordMax}},
		{{0, 0, wordMin}, {0, 0, wordMax}, {wordMax}},
		{{0, 0, 0, wordMin}, {one, 0, 0, -one}, {-wordMax, 0, 0, wordMin}},
		// sums that are cut on their way, and come back
		{{wordMin, wordMin, wordMin, wordMin}, {wordMin, wordMin, wordMin, wordMin}, {wordMin, 0, wordMax, wordMax}},
		{{wordMin, wordMin, wordMin, wordMin}, {wordMax, wordMax, wordMax, wordMax}, {wordMax, 0, wordMin, wordMin}},
		{{wordMax, wordMax, wordMax, wordMax}, {wordMax, wordMax, wordMax, wordMax}, {wordMin, 0, wordMax, wordMax}},
		{{wordMax, wordMax, wordMax, wordMax}, {wordMin, wordMin, wordMin, wordMin}, {wordMax, 0, wordMin, wordMin}},
		{{one, wordMin, wordMin, wordMin}, {one, one, one, one}, {wordMax, 0, wordMin, -one}},
		{{wordMin, wordMin, wordMax, wordMax}, {one, -one, one, -one}, {-1, wordMin, wordMin, wordMax}},
		{{1500000000, 1600000000, 1700000000, 1800000000}, {1900000000, -2000000000, 2100000000, -1000000000}, {1676380634, wordMin, -1, wordMax}},
	} {
		if got := quat.Mul(c[0], c[1]); got != c[2] {
			t.Errorf("Mul(%d, %d) = %d, want %d", c[0], c[1], got, c[2])
		}
	}
}

func TestMulOfOnes(t *testing.T) {
	for a := range 4 {
		for b := range 4 {
			at := products()[a][b]
			if got, want := quat.Mul(only(a, one), only(b, one)), only(at.part, int32(at.sign*one)); got != want {
				t.Errorf("part %d by part %d: %d, want %d", a, b, got, want)
			}
		}
	}
}

func TestMulHasSixteenProducts(t *testing.T) {
	for a := range 4 {
		for b := range 4 {
			checkProducts(t, a, b, func(x, y int32) api.Quat { return quat.Mul(only(a, x), only(b, y)) })
		}
	}
}

func TestMulIsWhatIsReckoned(t *testing.T) {
	sums := mulSums()
	for _, x := range pairs() {
		if got, want := mul(x), reckoned(sums, x.p, x.q); got != want {
			t.Fatalf("Mul(%d, %d) = %d, want %d", x.p, x.q, got, want)
		}
	}
}

func TestMulIsReckonedAsTheChapterSays(t *testing.T) { tellsOthers(t, mulSums(), mul) }

func TestMulIsCutOnItsWay(t *testing.T) { checkOnTheirWay(t, mulSums(), mul) }

// P10.2

func TestConjExamples(t *testing.T) {
	for _, c := range [][2]api.Quat{
		{{}, {}},
		{{1, 2, -3, 4}, {1, -2, 3, -4}},
		{{-5, -1, 1, 0}, {-5, 1, -1, 0}},
		{{one, one, -one, half}, {one, -one, one, -half}},
		{{wordMin, wordMin, wordMin, wordMin}, {wordMin, wordMax, wordMax, wordMax}},
		{{wordMin + 1, wordMin + 1, wordMin, 0}, {wordMin + 1, wordMax, wordMax, 0}},
		{{wordMax, wordMax, wordMax, wordMax}, {wordMax, -wordMax, -wordMax, -wordMax}},
	} {
		if got := quat.Conj(c[0]); got != c[1] {
			t.Errorf("Conj(%d) = %d, want %d", c[0], got, c[1])
		}
	}
}

func TestConjOfAllParts(t *testing.T) {
	for _, x := range words() {
		for n := range 4 {
			want := only(n, x)
			if n > 0 {
				want[n] = int32(cut(-int64(x)))
			}
			if got := quat.Conj(only(n, x)); got != want {
				t.Fatalf("Conj(%d) = %d, want %d", only(n, x), got, want)
			}
		}
	}
	for _, p := range some(3000) {
		want := p
		for n, x := range p[1:] {
			want[n+1] = int32(cut(-int64(x)))
		}
		if got := quat.Conj(p); got != want {
			t.Fatalf("Conj(%d) = %d, want %d", p, got, want)
		}
	}
}

func TestNormExamples(t *testing.T) {
	for _, c := range []struct {
		p    api.Quat
		norm int32
	}{
		// each square is rounded by itself
		{api.Quat{}, 0}, {api.Quat{1, -1, 1, -1}, 0}, {api.Quat{23170, 0, 0, 0}, 0}, {api.Quat{23170, 23170, 23170, 23170}, 0},
		{api.Quat{23171, 0, 0, 0}, 1}, {api.Quat{0, -23171, 0, 0}, 1}, {api.Quat{0, 0, 23171, 0}, 1}, {api.Quat{0, 0, 0, -23171}, 1}, {api.Quat{23171, 23171, 23171, 23171}, 4},
		{api.Quat{40132, 0, 0, 0}, 1}, {api.Quat{40133, 0, 0, 0}, 2}, {api.Quat{40132, 40132, 40132, 40132}, 4}, {api.Quat{32768, 0, 0, 0}, 1}, {api.Quat{1, 32768, -32768, 65536}, 6},
		{api.Quat{one, 0, 0, 0}, one}, {api.Quat{half, half, -half, -half}, one}, {api.Quat{root2, root2, 0, 0}, one}, {api.Quat{-root2, 0, 0, root2}, one},
		{api.Quat{half, half - 1, 0, 0}, half - 1}, {api.Quat{half, half, 0, 0}, half}, {api.Quat{0, 0, half, -half - 1}, half + 1}, {api.Quat{123456789, -987654321, 555555555, -333333333}, 1313589255},
		// just not cut, and cut
		{api.Quat{one, one - 1, 0, 0}, wordMax - 1}, {api.Quat{one, 0, 0, one - 1}, wordMax - 1}, {api.Quat{one, one - 1, 23170, 0}, wordMax - 1}, {api.Quat{one, one - 1, 23171, 0}, wordMax}, {api.Quat{one, one - 1, 23171, 23171}, wordMax}, {api.Quat{one, one - 1, 0, -40133}, wordMax},
		{api.Quat{one, one, 0, 0}, wordMax}, {api.Quat{one, 0, -one, 0}, wordMax}, {api.Quat{1518500249, 0, 0, 0}, wordMax - 2}, {api.Quat{1518500250, 0, 0, 0}, wordMax}, {api.Quat{0, 0, 0, -1518500250}, wordMax},
		{api.Quat{wordMin, 0, 0, 0}, wordMax}, {api.Quat{0, wordMin, 0, 0}, wordMax}, {api.Quat{0, 0, wordMin, 0}, wordMax}, {api.Quat{0, 0, 0, wordMin}, wordMax}, {api.Quat{wordMin, 1, 0, 0}, wordMax},
		{api.Quat{wordMax, 0, 0, 0}, wordMax}, {api.Quat{wordMin, wordMin, wordMin, wordMin}, wordMax}, {api.Quat{wordMax, wordMax, wordMax, wordMax}, wordMax}, {api.Quat{wordMin, wordMax, wordMin, wordMax}, wordMax},
	} {
		if got := quat.Norm(c.p); got != c.norm {
			t.Errorf("Norm(%d) = %d, want %d", c.p, got, c.norm)
		}
	}
}

// squared are pairs of one quaternion with itself: some, and the long ones, of whose squares the sum leaves the word by little.
func squared() []pair {
	var l []pair
	for _, p := range append(some(20000), units()...) {
		l = append(l, pair{p, p})
	}
	return l
}

func TestNormIsWhatIsReckoned(t *testing.T) {
	for _, x := range squared() {
		if got, want := quat.Norm(x.p), chapter(normSum(), x.p, x.p); int64(got) != want {
			t.Fatalf("Norm(%d) = %d, want %d", x.p, got, want)
		}
	}
	for _, w := range words() {
		for n := range 4 {
			if got, want := quat.Norm(only(n, w)), cut(nearest(int64(w)*int64(w))); int64(got) != want {
				t.Fatalf("Norm(%d) = %d, want %d", only(n, w), got, want)
			}
		}
	}
}

// Squares don't lie in the midst of two, and none takes a sum back: it is told how they are rounded, that they are cut, and that sums are.
func TestNormIsReckonedAsTheChapterSays(t *testing.T) {
	all, l := squared(), normSum()
	norm := func(x pair) int32 { return quat.Norm(x.p) }
	others := rounded()
	others["sums go round"] = round
	others["products go round"] = uncut()["products go round"]
	for name, other := range others {
		tells(t, name, all, l, func(x pair) int64 { return other(l, x.p, x.q) }, norm)
	}
}

func TestUnitExamples(t *testing.T) {
	for _, c := range [][2]api.Quat{
		// of the norm 0
		{{}, {}}, {{1, -1, 2, -2}, {2, -2, 4, -4}}, {{100, -100, 1, 0}, {200, -200, 2, 0}}, {{23170, -23170, 23170, 0}, {46340, -46340, 46340, 0}},
		// of 1, 2, 4, and some more
		{{23171, 0, 0, 0}, {759267328, 0, 0, 0}}, {{0, -23171, 23170, 7}, {0, -759267328, 759234560, 229376}}, {{32768, 0, 0, 0}, {one, 0, 0, 0}}, {{0, 0, -32768, 0}, {0, 0, -one, 0}},
		{{40132, -40132, 3, 0}, {929890304, -929890304, 65536, 0}}, {{40133, 0, 0, 0}, {929890304, 0, 0, 0}}, {{32768, -32768, 32768, -32768}, {half, -half, half, -half}}, {{65536, 0, 0, -65536}, {759250944, 0, 0, -759250944}},
		{{-65537, 1, 2, 3}, {-1073758208, 16384, 32768, 49152}}, {{12345, -54321, 77777, -99999}, {95346688, -419545088, 600711168, -772341760}}, {{1 << 20, -3 << 18, 5, -5}, {858993664, -644245504, 4096, -4096}},
		{{1 << 28, 0, 0, 0}, {one, 0, 0, 0}}, {{1 << 28, -1 << 28, 0, 1}, {759250124, -759250124, 0, 4}}, {{-half, 1, -1, 5}, {-one, 2, -2, 10}},
		// just at 2^29
		{{half, half - 1, 0, 0}, {759250126, 759250124, 0, 0}}, {{half - 1, -half, 0, 0}, {759250124, -759250126, 0, 0}}, {{half, half, 0, 0}, {759250126, 759250126, 0, 0}}, {{0, 0, -half, half}, {0, 0, -759250124, 759250126}}, {{half, -half - 1, 0, 0}, {759250126, -759250126, 0, 0}},
		{{312098048, -692138396, 0, 0}, {441373292, -978831508, 0, 0}}, {{0, -312098048, 692138397, 0}, {0, -441373292, 978831508, 0}}, {{280592166, -705498965, 0, 0}, {396817246, -997726204, 0, 0}},
		// about 2^30
		{{one, 0, 0, 0}, {one, 0, 0, 0}}, {{0, -one, 0, 0}, {0, -one, 0, 0}}, {{half, half, half, half}, {half, half, half, half}}, {{-half, half, -half, -half}, {-half, half, -half, -half}}, {{one, 1, -1, 2}, {one, 1, -1, 2}},
		{{one - 1, 0, 0, 0}, {one, 0, 0, 0}}, {{one + 1, 0, -23171, 0}, {one + 1, 0, -23171, 0}}, {{root2, -root2, 0, 0}, {root2, -root2, 0, 0}}, {{600000000, -600000000, 600000000, -600000000}, {half, -half, half, -half}},
		{{123456789, -987654321, 555555555, -333333333}, {111618227, -892945822, 502282025, -301369215}},
		// just at 2^31 - 2^20
		{{412490454, -1461016336, 0, 0}, {291746033, -1033346873, 0, 0}}, {{332530870, -1481263086, 0, 0}, {235192260, -1047666983, 0, 0}}, {{-332530870, 0, 0, 1481263086}, {-235192260, 0, 0, 1047666983}}, {{319149608, -1484203705, 0, 0}, {225727968, -1049746822, 0, 0}},
		// beyond, and cut
		{{one, one - 1, 0, 0}, {759250126, 759250125, 0, 0}}, {{one, -one + 1, 0, 0}, {759250126, -759250125, 0, 0}}, {{1518500249, 0, 0, 0}, {one + 1, 0, 0, 0}}, {{0, -1518500249, 0, 0}, {0, -one - 1, 0, 0}},
		{{0, one, 0, -one}, {0, 759250126, 0, -759250126}}, {{0, 0, 0, 1518500250}, {0, 0, 0, one + 1}}, {{wordMin, 0, 0, 0}, {-1518500252, 0, 0, 0}}, {{0, wordMax, 0, 0}, {0, 1518500251, 0, 0}}, {{wordMin, 1, -1, one}, {-1518500252, 1, -1, 759250126}},
		{{wordMin, wordMax, wordMin, wordMax}, {-1518500252, 1518500251, -1518500252, 1518500251}}, {{1600000000, -1700000000, 3, -4}, {1131370851, -1202081530, 2, -3}},
	} {
		if got := quat.Unit(c[0]); got != c[1] {
			t.Errorf("Unit(%d) = %d, want %d", c[0], got, c[1])
		}
	}
}

func TestUnitIsWhatIsReckoned(t *testing.T) {
	l := append(some(20000), units()...)
	for _, w := range words() {
		for n := range 4 {
			l = append(l, only(n, w))
		}
	}
	for _, p := range l {
		z, h := root.Rsqrt(int32(chapter(normSum(), p, p)))
		var want api.Quat
		for n, x := range p {
			want[n] = root.Scale(x, z, h)
		}
		if got := quat.Unit(p); got != want {
			t.Fatalf("Unit(%d) = %d, want %d", p, got, want)
		}
	}
}

// P10.3

func rate(x pair) api.Quat { return quat.Rate(x.p, turning(x.q)) }

func TestRateExamples(t *testing.T) {
	for _, c := range []struct {
		q    api.Quat
		w    [3]int32
		want api.Quat
	}{
		{api.Quat{3, 5, 7, 11}, [3]int32{one, 0, 0}, api.Quat{-5, 3, 11, -7}},
		{api.Quat{3, 5, 7, 11}, [3]int32{0, one, 0}, api.Quat{-7, -11, 3, 5}},
		{api.Quat{3, 5, 7, 11}, [3]int32{0, 0, one}, api.Quat{-11, 7, -5, 3}},
		{api.Quat{}, [3]int32{wordMin, wordMax, 9}, api.Quat{}},
		{api.Quat{wordMin, wordMax, 9, -9}, [3]int32{}, api.Quat{}},
		{api.Quat{one, 0, 0, 0}, [3]int32{wordMin, wordMax, -7}, api.Quat{0, wordMin, wordMax, -7}},
		{api.Quat{123456789, -987654321, 555555555, -333333333}, [3]int32{-456789012, 234567890, -876543210}, api.Quat{-813646434, -433225983, -637490010, -80201334}},
		// halves: each product goes up by itself
		{api.Quat{half, half, half, half}, [3]int32{1, 3, 5}, api.Quat{-6, 2, 0, 4}},
		{api.Quat{half, half, half, half}, [3]int32{-1, -3, -5}, api.Quat{3, -1, 1, -3}},
		{api.Quat{1, 2, 3, 4}, [3]int32{half, half, half}, api.Quat{-5, 1, 2, 0}},
		{api.Quat{-1, -2, -3, -5}, [3]int32{half, half, half}, api.Quat{4, 1, -1, 0}},
		// 0 without -2^31
		{api.Quat{0, wordMin, 0, 0}, [3]int32{one, 0, 0}, api.Quat{wordMax, 0, 0, 0}},
		{api.Quat{0, 0, wordMin, 0}, [3]int32{0, one, 0}, api.Quat{wordMax, 0, 0, 0}},
		{api.Quat{0, 0, 0, wordMin}, [3]int32{0, 0, one}, api.Quat{wordMax, 0, 0, 0}},
		{api.Quat{wordMin, wordMin, wordMin, wordMin}, [3]int32{one, 0, 0}, api.Quat{wordMax, wordMin, wordMin, wordMax}},
		{api.Quat{0, wordMin, half, 0}, [3]int32{one, half, 0}, api.Quat{1879048191, 0, 0, -1610612736}},
		// sums that are cut on their way, and come back
		{api.Quat{wordMin, wordMin, wordMin, wordMin}, [3]int32{one, one, one}, api.Quat{wordMax, 0, wordMin, 0}},
		{api.Quat{wordMin, wordMin, wordMin, wordMin}, [3]int32{wordMin, wordMin, wordMin}, api.Quat{wordMin, 0, wordMax, 0}},
		{api.Quat{wordMax, wordMax, wordMax, wordMax}, [3]int32{wordMax, wordMax, wordMax}, api.Quat{wordMin, 0, wordMax, 0}},
		{api.Quat{wordMin, wordMin, wordMin, wordMin}, [3]int32{wordMax, wordMax, wordMax}, api.Quat{wordMax, 0, wordMin, 0}},
		{api.Quat{1500000000, -1600000000, 1700000000, 1800000000}, [3]int32{1900000000, 2000000000, -2100000000}, api.Quat{wordMax, wordMin, wordMax, wordMin}},
	} {
		if got := quat.Rate(c.q, c.w); got != c.want {
			t.Errorf("Rate(%d, %d) = %d, want %d", c.q, c.w, got, c.want)
		}
	}
}

// The turning stands for the parts 1 to 3 of a quaternion: its products go where theirs do.
func TestRateHasTwelveProducts(t *testing.T) {
	for a := range 4 {
		for b := range 3 {
			checkProducts(t, a, b+1, func(x, y int32) api.Quat { return quat.Rate(only(a, x), turning(only(b, y))) })
		}
	}
}

func TestRateIsWhatIsReckoned(t *testing.T) {
	sums := rateSums()
	for _, x := range pairs() {
		if got, want := rate(x), reckoned(sums, x.p, x.q); got != want {
			t.Fatalf("Rate(%d, %d) = %d, want %d", x.p, turning(x.q), got, want)
		}
	}
}

func TestRateIsReckonedAsTheChapterSays(t *testing.T) { tellsOthers(t, rateSums(), rate) }

func TestRateIsCutOnItsWay(t *testing.T) { checkOnTheirWay(t, rateSums(), rate) }

// P10.4

const (
	short = 1 << 29
	long  = 1<<31 - 1<<20
)

// brought is p, brought to a norm, nearly; the same way it points, nearly.
func brought(p api.Quat, norm float64) api.Quat {
	squares := 0.0
	for _, x := range p {
		squares += float64(x) * float64(x)
	}
	by := math.Sqrt(norm * one / squares)
	for n, x := range p {
		p[n] = int32(math.Round(float64(x) * by))
	}
	return p
}

// units are quaternions of norms from 2^29 to 2^31 - 2^20, and a few beside: on the axes, between two, three and all four, with small parts beside great ones, and without a pattern.
func units() []api.Quat {
	from := []api.Quat{{1, 1, 1, 1}, {1, -1, 1, -1}, {1000000, 1, -1, 2}, {1, 1000000000, -3, 30000}, {0, 0, 1 << 30, -1 << 15}}
	for n := range 4 {
		from = append(from, only(n, 1), only(n, -1))
		for k := range n {
			p := only(n, 1)
			p[k] = 1
			q := only(n, -3)
			q[k] = 2
			from = append(from, p, q)
		}
	}
	for _, p := range some(3000) {
		if p != (api.Quat{}) {
			from = append(from, p)
		}
	}
	norms := []float64{short, short + 1, short + 4, short + 1<<20, 600000000, 3 << 28, one - 1, one, one + 1, 1200000000, 3 << 29, 2000000000, long - 1<<20, long - 4, long - 1, long, wordMax}
	pick := picks()
	var l []api.Quat
	for _, p := range from {
		l = append(l, brought(p, float64(short+pick(long-short))))
		for _, norm := range norms {
			l = append(l, brought(p, norm))
		}
	}
	// Norms that are just 2^29, and 2^31 - 2^20.
	return append(l, api.Quat{half, half, 0, 0}, api.Quat{0, 0, -half, half}, api.Quat{0, -312098048, 692138397, 0}, api.Quat{332530870, -1481263086, 0, 0}, api.Quat{-332530870, 0, 0, 1481263086})
}

func TestUnitIsOne(t *testing.T) {
	seen := map[int32]int{}
	for _, p := range units() {
		norm := quat.Norm(p)
		if norm < short || norm > long {
			continue
		}
		seen[norm]++
		squares := int64(0)
		for _, x := range quat.Unit(p) {
			squares += int64(x) * int64(x)
		}
		if d := squares - 1<<60; d <= -1<<36 || d >= 1<<36 {
			t.Fatalf("Unit(%d) = %d: its squares are %d from 2^60", p, quat.Unit(p), d)
		}
	}
	if seen[short] == 0 || seen[long] == 0 || seen[one] == 0 || len(seen) < 1000 {
		t.Errorf("the ends, 2^30 and a thousand more are not among the norms: they are %d", len(seen))
	}
}

func TestUnitPointsWhereItDid(t *testing.T) {
	for _, p := range units() {
		if norm := quat.Norm(p); norm < short || norm > long {
			continue
		}
		u := quat.Unit(p)
		for n := range p {
			for k := range p {
				if d := int64(p[n])*int64(u[k]) - int64(p[k])*int64(u[n]); d <= -1<<33 || d >= 1<<33 {
					t.Fatalf("Unit(%d) = %d: crosswise the products of the parts %d and %d are apart by %d", p, u, n, k, d)
				}
			}
			if p[n] < 0 && u[n] > 0 || p[n] > 0 && u[n] < 0 {
				t.Fatalf("Unit(%d) = %d: part %d is turned round", p, u, n)
			}
		}
	}
}

// P10.5

func TestOneChangesNothing(t *testing.T) {
	l := append(some(20000), units()...)
	for _, w := range words() {
		l = append(l, api.Quat{w, w, w, w})
		for n := range 4 {
			l = append(l, only(n, w))
		}
	}
	for _, p := range l {
		if got := quat.Mul(only(0, one), p); got != p {
			t.Fatalf("Mul(1, %d) = %d", p, got)
		}
		if got := quat.Mul(p, only(0, one)); got != p {
			t.Fatalf("Mul(%d, 1) = %d", p, got)
		}
	}
}

// The chapter's examples.

func TestExamples(t *testing.T) {
	if got, want := quat.Mul(api.Quat{0, one, 0, 0}, api.Quat{0, 0, one, 0}), (api.Quat{0, 0, 0, one}); got != want {
		t.Errorf("i times j = %d, want k: %d", got, want)
	}
}
