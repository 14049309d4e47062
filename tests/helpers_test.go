package tests

// wordsOver returns all strings of at most n bytes, each of them a byte of
// letters.
func wordsOver(letters string, n int) []string {
	words := []string{""}
	first := 0
	for range n {
		end := len(words)
		for _, w := range words[first:end] {
			for i := range len(letters) {
				words = append(words, w+letters[i:i+1])
			}
		}
		first = end
	}
	return words
}

// byteText returns the string of the one byte b.
func byteText(b int) string { return string([]byte{byte(b)}) }
