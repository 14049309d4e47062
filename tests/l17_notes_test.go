package tests

import (
	"fmt"
	"slices"
	"strings"
	"testing"

	"loop.example/g00928/impl"
)

func TestFormatSurface(t *testing.T) {
	cases := []struct {
		s    impl.Surface
		want string
	}{
		{surfaceWith([]int{0}, []int{0}), "0|0"},
		{surfaceWith([]int{1, 0}, []int{0, 1}), "1,0|0,1"},
		{surfaceWith([]int{0, 1}, []int{1, 0}), "0,1|1,0"},
		{surfaceWith([]int{1, 0, 2}, []int{2, 1, 0}), "1,0,2|2,1,0"},
		{surfaceWith([]int{1, 2, 0, 3}, []int{3, 1, 2, 0}), "1,2,0,3|3,1,2,0"},
		{surfaceWith(circling(10, 1), counting(10)), "1,2,3,4,5,6,7,8,9,0|0,1,2,3,4,5,6,7,8,9"},
		{surfaceWith(circling(11, 10), circling(11, 2)), "10,0,1,2,3,4,5,6,7,8,9|2,3,4,5,6,7,8,9,10,0,1"},
		{zigzag(12), "1,0,3,2,5,4,7,6,9,8,11,10|0,2,1,4,3,6,5,8,7,10,9,11"},
		{
			surfaceWith(circling(24, 1), circling(24, 12)),
			"1,2,3,4,5,6,7,8,9,10,11,12,13,14,15,16,17,18,19,20,21,22,23,0|12,13,14,15,16,17,18,19,20,21,22,23,0,1,2,3,4,5,6,7,8,9,10,11",
		},
	}
	for _, c := range cases {
		if got := impl.FormatSurface(c.s); got != c.want {
			t.Errorf("FormatSurface(%v) = %q, want %q", c.s, got, c.want)
		}
	}
}

// listTextSlowly changes what fmt writes of a list.
func listTextSlowly(list []int) string {
	return strings.ReplaceAll(strings.Trim(fmt.Sprint(list), "[]"), " ", ",")
}

func TestFormatSurfaceOfManySurfaces(t *testing.T) {
	for _, s := range cornerSurfaces() {
		want := listTextSlowly(s.Right) + "|" + listTextSlowly(s.Up)
		if got := impl.FormatSurface(s); got != want {
			t.Errorf("FormatSurface(%v) = %q, want %q", s, got, want)
		}
	}
}

func TestInvalidSurfacesHaveNoText(t *testing.T) {
	for _, s := range invalidSurfaces() {
		if got := impl.FormatSurface(s); got != "" {
			t.Errorf("FormatSurface(%v) = %q", s, got)
		}
	}
}

func TestFormatSurfaceOfAllShortLists(t *testing.T) {
	for _, s := range shortSurfaces() {
		want := ""
		if isSurfaceSlowly(s) {
			want = listTextSlowly(s.Right) + "|" + listTextSlowly(s.Up)
		}
		if got := impl.FormatSurface(s); got != want {
			t.Errorf("FormatSurface(%v) = %q, want %q", s, got, want)
		}
	}
}

func TestSurfacesHaveTheSameTextExactlyIfTheyAreEqual(t *testing.T) {
	texts := map[string]impl.Surface{}
	for _, s := range cornerSurfaces() {
		text := impl.FormatSurface(s)
		if first, met := texts[text]; met && !equalSurfaces(first, s) {
			t.Errorf("%v and %v have the text %q", first, s, text)
		}
		texts[text] = s
	}
}

func TestFormatSurfaceKeepsItsArgument(t *testing.T) {
	for _, s := range append(longSurfaces(), invalidSurfaces()...) {
		right, up := withRoom(s.Right), withRoom(s.Up)
		rightBefore, upBefore := slices.Clone(right[:len(right)+spare]), slices.Clone(up[:len(up)+spare])
		text := impl.FormatSurface(surfaceWith(right, up))
		if !slices.Equal(right[:len(right)+spare], rightBefore) || !slices.Equal(up[:len(up)+spare], upBefore) {
			t.Errorf("FormatSurface(%v) changed its argument", s)
		}
		spoil(right, 0)
		spoil(up, 0)
		if again := impl.FormatSurface(s); again != text {
			t.Errorf("FormatSurface(%v) = %q and then %q", s, text, again)
		}
	}
}
