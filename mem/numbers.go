package mem

// numbers are the numbers of closed spaces, as a heap of package
// container/heap: the smallest one is found fast, however many there are.
type numbers []int

func (n numbers) Len() int           { return len(n) }
func (n numbers) Less(i, j int) bool { return n[i] < n[j] }
func (n numbers) Swap(i, j int)      { n[i], n[j] = n[j], n[i] }

// Push appends a number.
func (n *numbers) Push(x any) { *n = append(*n, x.(int)) }

// Pop removes the number that Push appended last, or a Swap put in its place.
func (n *numbers) Pop() any {
	last := len(*n) - 1
	x := (*n)[last]
	*n = (*n)[:last]
	return x
}
