package tests

import (
	"runtime"
	"slices"
	"testing"
)

// wordsOver returns all strings of at most n bytes, each of them a byte of
// letters.
func wordsOver(letters string, n int) []string {
	words := []string{""}
	first := 0
	for range n {
		end := len(words)
		for _, w := range words[first:end] {
			for i := range len(letters) {
				words = append(words, w+letters[i:i+1])
			}
		}
		first = end
	}
	return words
}

// byteText returns the string of the one byte b.
func byteText(b int) string { return string([]byte{byte(b)}) }

// spoil overwrites the list and the capacity behind it.
func spoil[T any](list []T, with T) {
	whole := list[:cap(list)]
	for i := range whole {
		whole[i] = with
	}
}

// listsOver returns all lists of n numbers from low to high.
func listsOver(low int, high int, n int) [][]int {
	lists := [][]int{{}}
	for range n {
		var longer [][]int
		for _, l := range lists {
			for x := low; x <= high; x++ {
				longer = append(longer, append(slices.Clone(l), x))
			}
		}
		lists = longer
	}
	return lists
}

// isPermSlowly sorts the list, for comparison with impl.PermOk.
func isPermSlowly(p []int) bool {
	for i, x := range slices.Sorted(slices.Values(p)) {
		if x != i {
			return false
		}
	}
	return len(p) <= 24
}

// permsOf returns all permutations of n elements in lexicographic order.
func permsOf(n int) [][]int {
	return slices.DeleteFunc(listsOver(0, n-1, n), func(p []int) bool { return !isPermSlowly(p) })
}

// counting returns the list 0, 1 and so on up to n.
func counting(n int) []int {
	list := make([]int, n)
	for i := range list {
		list[i] = i
	}
	return list
}

// circling returns the permutation in which i goes to i + step, around n.
func circling(n int, step int) []int {
	list := make([]int, n)
	for i := range list {
		list[i] = (i + step) % n
	}
	return list
}

// cloneAll copies lists one by one.
func cloneAll(lists [][]int) [][]int {
	var copies [][]int
	for _, l := range lists {
		copies = append(copies, slices.Clone(l))
	}
	return copies
}

func equalLists(a [][]int, b [][]int) bool { return slices.EqualFunc(a, b, slices.Equal) }

// spare is how many elements withRoom puts behind a list.
const spare = 3

// withRoom returns a list with the same elements and spare more behind it.
func withRoom(list []int) []int {
	return append(slices.Clone(list), -7, -8, -9)[:len(list)]
}

func withRoomAll(lists [][]int) [][]int {
	var roomy [][]int
	for _, l := range lists {
		roomy = append(roomy, withRoom(l))
	}
	return roomy
}

// layerCalls makes the calls of a layer, under their names, with lists as
// their arguments; each call gives the slices of its result.
type layerCalls func(lists [][]int) map[string]func() [][]int

// checkMemory checks the rules of memory for the calls with these lists.
func checkMemory(t *testing.T, lists [][]int, calls layerCalls) {
	t.Helper()
	for name := range calls(lists) {
		checkArgumentsStay(t, name, lists, calls)
		checkResultsAreIndependent(t, name, lists, calls)
		checkResultOutlivesArguments(t, name, lists, calls)
	}
}

func checkArgumentsStay(t *testing.T, name string, lists [][]int, calls layerCalls) {
	t.Helper()
	arguments := withRoomAll(lists)
	var whole [][]int
	for _, l := range arguments {
		whole = append(whole, l[:len(l)+spare])
	}
	before := cloneAll(whole)
	for _, l := range calls(arguments)[name]() {
		spoil(l, -1)
	}
	if !equalLists(whole, before) {
		t.Errorf("%s or its changed result changed the arguments %v", name, lists)
	}
}

func checkResultsAreIndependent(t *testing.T, name string, lists [][]int, calls layerCalls) {
	t.Helper()
	call := calls(cloneAll(lists))[name]
	first, second := call(), call()
	want := cloneAll(second)
	for i := range first {
		rest := cloneAll(first[i+1:])
		spoil(first[i], -1)
		if !equalLists(first[i+1:], rest) {
			t.Errorf("%s of %v: two lists of a result share memory", name, lists)
		}
	}
	spoil(first, []int{-1})
	if !equalLists(second, want) {
		t.Errorf("%s of %v: two results share memory", name, lists)
	}
	if third := call(); !equalLists(third, want) {
		t.Errorf("%s of %v: a changed result comes back: %v", name, lists, third)
	}
}

func checkResultOutlivesArguments(t *testing.T, name string, lists [][]int, calls layerCalls) {
	t.Helper()
	arguments := withRoomAll(lists)
	result := calls(arguments)[name]()
	want := cloneAll(result)
	for _, l := range arguments {
		spoil(l, -1)
	}
	if !equalLists(result, want) {
		t.Errorf("%s of %v: the result changed with its arguments", name, lists)
	}
}

// checkNothingGoesOn counts what is still running after some calls. It waits,
// because what has ended in time may still be there for a moment.
func checkNothingGoesOn(t *testing.T, calls func()) {
	t.Helper()
	before := runtime.NumGoroutine()
	calls()
	for range 1000000 {
		if runtime.NumGoroutine() <= before {
			return
		}
		runtime.Gosched()
	}
	t.Errorf("%d goroutines run, and %d did before", runtime.NumGoroutine(), before)
}
