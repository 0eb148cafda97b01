package trace_test

import (
	"math"
	"math/big"

	"astrolabe/api"
)

// The reckoning of the tests is the chapter's: sums of whole numbers without bound, and rows, addresses and the dearest ones picked one by one, without maps and without sorting.

// ends are numbers at which sums and comparisons turn, some of them alike when cut to fewer bits.
var ends = []int{0, 1, -1, 2, -2, 3, 35, 36, 255, 256, 1023, 1024, 2047, 2048, 16383, 16384, 65535, 65536, -65536,
	1<<31 - 1, 1 << 31, -1 << 31, -1<<31 - 1, 1<<32 - 1, 1 << 32, 1<<32 + 1, -1 << 32, 1<<32 - 2, 1 << 62, -1 << 62,
	math.MaxInt - 1, math.MaxInt, math.MinInt, math.MinInt + 1}

// wrapped is the number, from -2^63 to 2^63 - 1, that is x modulo 2^64.
func wrapped(x *big.Int) int {
	all := new(big.Int).Lsh(big.NewInt(1), 64)
	rest := new(big.Int).Mod(x, all)
	if rest.Cmp(big.NewInt(math.MaxInt)) > 0 {
		rest.Sub(rest, all)
	}
	return int(rest.Int64())
}

// sum is the one of some numbers, modulo 2^64, with a sign.
func sum(l []int) int {
	all := new(big.Int)
	for _, x := range l {
		all.Add(all, big.NewInt(int64(x)))
	}
	return wrapped(all)
}

// costs are those of marks.
func costs(l []api.Mark) []int {
	var all []int
	for _, m := range l {
		all = append(all, m.Cost)
	}
	return all
}

// plainCount: how many marks stand at a place.
func plainCount(l []api.Mark, pc int) int {
	n := 0
	for _, m := range l {
		if m.Pc == pc {
			n++
		}
	}
	return n
}

// plainFirst: the first mark that is unlike, field by field, or that just one list has.
func plainFirst(a, b []api.Mark) int {
	for n := 0; n < len(a) || n < len(b); n++ {
		if n >= len(a) || n >= len(b) || a[n].Pc != b[n].Pc || a[n].Addr != b[n].Addr || a[n].Cost != b[n].Cost {
			return n
		}
	}
	return -1
}

// plainAddrs: the addresses that are asked, each the least one that is greater than the one ahead.
func plainAddrs(l []api.Mark) []int {
	var out []int
	for {
		next, found := 0, false
		for _, m := range l {
			behind := len(out) == 0 || m.Addr > out[len(out)-1]
			if m.Addr != -1 && behind && (!found || m.Addr < next) {
				next, found = m.Addr, true
			}
		}
		if !found {
			return out
		}
		out = append(out, next)
	}
}

// plainFolds: the numbers of marks that do not stand one place behind the one ahead.
func plainFolds(l []api.Mark) []int {
	var out []int
	for n := range l {
		if n > 0 && l[n].Pc != sum([]int{l[n-1].Pc, 1}) {
			out = append(out, n)
		}
	}
	return out
}

// ahead: does a row stand ahead of another one?
func ahead(a, b api.Heat) bool { return a.Pc < b.Pc || a.Pc == b.Pc && a.Addr < b.Addr }

// plainRows: each the least row that stands behind the one ahead, with the times and the costs of its marks.
func plainRows(l []api.Mark) []api.Heat {
	var out []api.Heat
	for {
		next, found := api.Heat{}, false
		for _, m := range l {
			row := api.Heat{Pc: m.Pc, Addr: m.Addr}
			if (len(out) == 0 || ahead(out[len(out)-1], row)) && (!found || ahead(row, next)) {
				next, found = row, true
			}
		}
		if !found {
			return out
		}
		var cost []int
		for _, m := range l {
			if m.Pc == next.Pc && m.Addr == next.Addr {
				cost = append(cost, m.Cost)
			}
		}
		next.Times, next.Cost = len(cost), sum(cost)
		out = append(out, next)
	}
}

// plainTop: n times the dearest row that is not taken yet, the first one of such.
func plainTop(l []api.Mark, n int) []api.Heat {
	rows := plainRows(l)
	taken := make([]bool, len(rows))
	var out []api.Heat
	for len(out) < n && len(out) < len(rows) {
		best := -1
		for k, row := range rows {
			if !taken[k] && (best < 0 || row.Cost > rows[best].Cost) {
				best = k
			}
		}
		taken[best] = true
		out = append(out, rows[best])
	}
	return out
}

// chance answers numbers without a pattern, from 0 on, below what it is asked.
type chance uint32

func (c *chance) below(n int) int {
	*c = *c*1103515245 + 12345
	return int(*c>>8) % n
}

// some are n marks without a pattern: of few places and addresses, so that several have both, and now and then one behind the other.
func some(c *chance, n, places, addrs int) []api.Mark {
	l := make([]api.Mark, n)
	pc := 0
	for k := range l {
		pc++
		if c.below(3) == 0 {
			pc = c.below(places)
		}
		l[k] = api.Mark{Pc: pc, Addr: c.below(addrs+1) - 1, Cost: 1 + c.below(6)}
	}
	return l
}

// far are n marks whose numbers are of the ends.
func far(c *chance, n int) []api.Mark {
	l := make([]api.Mark, n)
	for k := range l {
		l[k] = api.Mark{Pc: ends[c.below(len(ends))], Addr: ends[c.below(len(ends))], Cost: ends[c.below(len(ends))]}
	}
	return l
}

// kinds are lists of n marks: as runs leave them, of few and of many rows, with numbers of the ends, and all alike.
func kinds(n int) [][]api.Mark {
	c := chance(n)
	alike := make([]api.Mark, n)
	for k := range alike {
		alike[k] = api.Mark{Pc: 7, Addr: 9, Cost: 2}
	}
	return [][]api.Mark{some(&c, n, 5, 2), some(&c, n, 40, 3), some(&c, n, 16384, 2048), far(&c, n), alike, make([]api.Mark, n)}
}
