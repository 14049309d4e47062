package tests

import "slices"

// wordsOver returns all strings of at most n bytes, each of them a byte of
// letters.
func wordsOver(letters string, n int) []string {
	words := []string{""}
	first := 0
	for range n {
		end := len(words)
		for _, w := range words[first:end] {
			for i := range len(letters) {
				words = append(words, w+letters[i:i+1])
			}
		}
		first = end
	}
	return words
}

// byteText returns the string of the one byte b.
func byteText(b int) string { return string([]byte{byte(b)}) }

// spoil overwrites the list and the capacity behind it.
func spoil[T any](list []T, with T) {
	whole := list[:cap(list)]
	for i := range whole {
		whole[i] = with
	}
}

// listsOver returns all lists of n numbers from low to high.
func listsOver(low int, high int, n int) [][]int {
	lists := [][]int{{}}
	for range n {
		var longer [][]int
		for _, l := range lists {
			for x := low; x <= high; x++ {
				longer = append(longer, append(slices.Clone(l), x))
			}
		}
		lists = longer
	}
	return lists
}

// isPermSlowly sorts the list, for comparison with impl.PermOk.
func isPermSlowly(p []int) bool {
	for i, x := range slices.Sorted(slices.Values(p)) {
		if x != i {
			return false
		}
	}
	return len(p) <= 24
}

// permsOf returns all permutations of n elements in lexicographic order.
func permsOf(n int) [][]int {
	return slices.DeleteFunc(listsOver(0, n-1, n), func(p []int) bool { return !isPermSlowly(p) })
}

// counting returns the list 0, 1 and so on up to n.
func counting(n int) []int {
	list := make([]int, n)
	for i := range list {
		list[i] = i
	}
	return list
}

// circling returns the permutation in which i goes to i + step, around n.
func circling(n int, step int) []int {
	list := make([]int, n)
	for i := range list {
		list[i] = (i + step) % n
	}
	return list
}
