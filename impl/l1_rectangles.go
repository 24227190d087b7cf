package impl

import "cmp"

// MaxSide is the greatest number of a side.
const MaxSide = 20

// Rect is all that lies from Left to Right, and from Low to High.
type Rect struct {
	Left  int
	Low   int
	Right int
	High  int
}

// RectOk reports whether a rectangle has 0 <= Left < Right <= MaxSide, and 0 <= Low < High <= MaxSide.
func RectOk(r Rect) bool {
	return spanOk(r.Left, r.Right) && spanOk(r.Low, r.High)
}

// AreaOf returns the area of a rectangle (RectOk): Right less Left, times High less Low; -1 for others.
func AreaOf(r Rect) int {
	if !RectOk(r) {
		return -1
	}
	return r.width() * r.height()
}

// CommonOf returns the rectangle that two rectangles (RectOk) have in common: with the greater one of both for Left and for Low, and the lesser one for Right and for High; and true; the zero value and false if that is none (RectOk), and for others.
func CommonOf(r Rect, s Rect) (Rect, bool) {
	if !bothOk(r, s) {
		return Rect{}, false
	}
	return onlyIfOk(r.common(s))
}

// AroundOf returns the least rectangle that has two rectangles (RectOk) within it (WithinOk): with the lesser one of both for Left and for Low, and the greater one for Right and for High; and true; the zero value and false for others.
func AroundOf(r Rect, s Rect) (Rect, bool) {
	if !bothOk(r, s) {
		return Rect{}, false
	}
	return r.around(s), true
}

// WithinOk reports whether a rectangle is within another one (RectOk), which may be the same: whether neither Left nor Low is less than those of the other one, and neither Right nor High greater; false for others.
func WithinOk(r Rect, s Rect) bool {
	return bothOk(r, s) && r.within(s)
}

// MovedBy returns a rectangle (RectOk) moved so much to the right, and so much up, each in -MaxSide..MaxSide; and true; the zero value and false if that is none (RectOk), and for others.
func MovedBy(r Rect, x int, y int) (Rect, bool) {
	if !RectOk(r) || !stepOk(x) || !stepOk(y) {
		return Rect{}, false
	}
	return onlyIfOk(r.moved(x, y))
}

// OverOf returns a rectangle (RectOk) turned over: with Left for Low, Low for Left, Right for High, and High for Right; the zero value for others.
func OverOf(r Rect) Rect {
	if !RectOk(r) {
		return Rect{}
	}
	return r.over()
}

func spanOk(from int, to int) bool {
	return 0 <= from && from < to && to <= MaxSide
}

// The bound comes ahead of any addition, so that no sum of a side and a step can overflow.
func stepOk(step int) bool {
	return -MaxSide <= step && step <= MaxSide
}

func bothOk(r Rect, s Rect) bool {
	return RectOk(r) && RectOk(s)
}

// Sides that were computed may be no rectangle, and nothing of them is to be seen beside false.
func onlyIfOk(r Rect) (Rect, bool) {
	if !RectOk(r) {
		return Rect{}, false
	}
	return r, true
}

// lesserAndGreater serves both ends of a span: what is common begins at the greater one of two and ends at the lesser one, what is around the other way.
func lesserAndGreater[T cmp.Ordered](a T, b T) (T, T) {
	if b < a {
		return b, a
	}
	return a, b
}

func (r Rect) width() int {
	return r.Right - r.Left
}

func (r Rect) height() int {
	return r.High - r.Low
}

func (r Rect) common(s Rect) Rect {
	_, left := lesserAndGreater(r.Left, s.Left)
	_, low := lesserAndGreater(r.Low, s.Low)
	right, _ := lesserAndGreater(r.Right, s.Right)
	high, _ := lesserAndGreater(r.High, s.High)
	return Rect{Left: left, Low: low, Right: right, High: high}
}

func (r Rect) around(s Rect) Rect {
	left, _ := lesserAndGreater(r.Left, s.Left)
	low, _ := lesserAndGreater(r.Low, s.Low)
	_, right := lesserAndGreater(r.Right, s.Right)
	_, high := lesserAndGreater(r.High, s.High)
	return Rect{Left: left, Low: low, Right: right, High: high}
}

func (r Rect) within(s Rect) bool {
	return s.Left <= r.Left && s.Low <= r.Low && r.Right <= s.Right && r.High <= s.High
}

func (r Rect) moved(x int, y int) Rect {
	return Rect{Left: r.Left + x, Low: r.Low + y, Right: r.Right + x, High: r.High + y}
}

func (r Rect) over() Rect {
	return Rect{Left: r.Low, Low: r.Left, Right: r.High, High: r.Right}
}
