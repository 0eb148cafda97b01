package chart

// Chance tells numbers without a pattern, the same ones each time that it begins as the same.
type Chance uint32

// Below: one from 0 to n - 1.
func (c *Chance) Below(n int) int {
	*c = *c*1664525 + 1013904223
	return int(*c>>8) % n
}
