package format

import (
	"math/bits"
	"strconv"
	"strings"

	"mullion/api"
)

// A head answers what a place says of the rest behind that head; the parts of
// the rest are texts of that depth.
type head func(rest string, depth int) (string, error)

// headsByName answers all heads but the turns, which have numbers and texts in
// their names.
func (x *expander) headsByName() map[string]head {
	return map[string]head{
		"==":    x.ofTexts(func(a, b string) bool { return a == b }),
		"!=":    x.ofTexts(func(a, b string) bool { return a != b }),
		"<":     x.ofTexts(func(a, b string) bool { return a < b }),
		">":     x.ofTexts(func(a, b string) bool { return a > b }),
		"<=":    x.ofTexts(func(a, b string) bool { return a <= b }),
		">=":    x.ofTexts(func(a, b string) bool { return a >= b }),
		"m":     x.ofTexts(Match),
		"||":    x.ofTruths(func(a, b bool) bool { return a || b }),
		"&&":    x.ofTruths(func(a, b bool) bool { return a && b }),
		"e|+|":  x.ofNumbers(sum),
		"e|-|":  x.ofNumbers(difference),
		"e|*|":  x.ofNumbers(product),
		"e|/|":  x.ofNumbers(quotient),
		"e|m|":  x.ofNumbers(remainder),
		"e|==|": x.ofNumbers(whether(func(a, b int64) bool { return a == b })),
		"e|<|":  x.ofNumbers(whether(func(a, b int64) bool { return a < b })),
		"e|>|":  x.ofNumbers(whether(func(a, b int64) bool { return a > b })),
		"!":     x.not,
		"l":     func(rest string, _ int) (string, error) { return rest, nil },
	}
}

// ofTexts makes the head that tells of two expanded parts.
func (x *expander) ofTexts(is func(a, b string) bool) head {
	return func(rest string, depth int) (string, error) {
		a, b, err := x.both(rest, depth, x.expand)
		if err != nil {
			return "", err
		}
		return yesOrNo(is(a, b)), nil
	}
}

// ofTruths makes the head that tells of two operands by whether they are true.
func (x *expander) ofTruths(is func(a, b bool) bool) head {
	return func(rest string, depth int) (string, error) {
		a, b, err := x.both(rest, depth, x.operand)
		if err != nil {
			return "", err
		}
		return yesOrNo(is(Truth(a), Truth(b))), nil
	}
}

// ofNumbers makes the head that says what comes of two operands as numbers.
func (x *expander) ofNumbers(of func(a, b int64) (int64, bool)) head {
	return func(rest string, depth int) (string, error) {
		first, second, err := x.both(rest, depth, x.operand)
		if err != nil {
			return "", err
		}
		a, okA := whole(first)
		b, okB := whole(second)
		if !okA || !okB {
			return "", fault{api.ErrFormat}
		}
		answer, ok := of(a, b)
		if !ok || answer < -api.MaxNumber || answer > api.MaxNumber {
			return "", fault{api.ErrFormat}
		}
		return strconv.FormatInt(answer, 10), nil
	}
}

func (x *expander) not(rest string, depth int) (string, error) {
	text, err := x.operand(rest, depth)
	if err != nil {
		return "", err
	}
	return yesOrNo(!Truth(text)), nil
}

// both cuts a rest into its two parts and answers what they mean, the first one
// first.
func (x *expander) both(rest string, depth int, mean func(string, int) (string, error)) (string, string, error) {
	parts := cutAtCommas(rest)
	if len(parts) != 2 {
		return "", "", fault{api.ErrFormat}
	}
	a, err := mean(parts[0], depth)
	if err != nil {
		return "", "", err
	}
	b, err := mean(parts[1], depth)
	if err != nil {
		return "", "", err
	}
	return a, b, nil
}

func yesOrNo(is bool) string {
	if is {
		return "1"
	}
	return "0"
}

// whole reads a whole number.
func whole(text string) (int64, bool) {
	digits, below := strings.CutPrefix(text, "-")
	// More digits than MaxNumber has are no number, and need not be gone through.
	if len(digits) > 19 || len(digits) > 1 && digits[0] == '0' {
		return 0, false
	}
	value, err := strconv.ParseUint(digits, 10, 64)
	if err != nil || value > api.MaxNumber {
		return 0, false
	}
	if below {
		return -int64(value), true
	}
	return int64(value), true
}

// sum may wrap round, from 2^63 alone, and then to -2^63, which is no answer
// either; so may difference.
func sum(a, b int64) (int64, bool) { return a + b, true }

func difference(a, b int64) (int64, bool) { return a - b, true }

// product is false where it would wrap round.
func product(a, b int64) (int64, bool) {
	high, low := bits.Mul64(size(a), size(b))
	if high != 0 || low > api.MaxNumber {
		return 0, false
	}
	return a * b, true
}

func size(a int64) uint64 {
	if a < 0 {
		return uint64(-a)
	}
	return uint64(a)
}

func quotient(a, b int64) (int64, bool) {
	if b == 0 {
		return 0, false
	}
	return a / b, true
}

func remainder(a, b int64) (int64, bool) {
	if b == 0 {
		return 0, false
	}
	return a % b, true
}

// whether makes a comparison one whose yes and no are numbers.
func whether(is func(a, b int64) bool) func(a, b int64) (int64, bool) {
	return func(a, b int64) (int64, bool) {
		if is(a, b) {
			return 1, true
		}
		return 0, true
	}
}
