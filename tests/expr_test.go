package tests

import (
	"math"
	"math/big"
	"strconv"
	"strings"
	"testing"

	"loop.example/g00699/impl"
)

// plainWords is the document's list of words, by Op.
func plainWords() []string {
	return []string{"", "key", "val", "time", "+", "-", "*", "/", "<", "=", "&", "!"}
}

func plainText(x []impl.Tok) string {
	words := []string{}
	for _, t := range x {
		if t.Op == impl.OpConst {
			words = append(words, strconv.Itoa(t.N))
		} else {
			words = append(words, plainWords()[t.Op])
		}
	}
	return strings.Join(words, " ")
}

// plainDepth is the document's definition of a valid expression and of its depth.
func plainDepth(x []impl.Tok) int {
	depth, most := 0, 0
	for _, t := range x {
		switch {
		case t.Op < 0 || t.Op > 11 || t.Op != 0 && t.N != 0:
			return -1
		case t.Op <= 3:
			depth++
		case t.Op == 11 && depth < 1, t.Op != 11 && depth < 2:
			return -1
		case t.Op != 11:
			depth--
		}
		if depth > most {
			most = depth
		}
	}
	if len(x) < 1 || len(x) > 20 || depth != 1 {
		return -1
	}
	return most
}

func plainBit(yes bool) *big.Int {
	if yes {
		return big.NewInt(1)
	}
	return big.NewInt(0)
}

func plainPair(op int, a *big.Int, b *big.Int) *big.Int {
	switch op {
	case impl.OpAdd:
		return new(big.Int).Add(a, b)
	case impl.OpSub:
		return new(big.Int).Sub(a, b)
	case impl.OpMul:
		return new(big.Int).Mul(a, b)
	case impl.OpDiv:
		return new(big.Int).Quo(a, b)
	case impl.OpLt:
		return plainBit(a.Cmp(b) < 0)
	case impl.OpEq:
		return plainBit(a.Cmp(b) == 0)
	}
	return plainBit(a.Sign() != 0 && b.Sign() != 0)
}

// plainRun evaluates with numbers of any size, and looks at the range after every token.
func plainRun(x []impl.Tok, e impl.Elem) (int, int) {
	if plainDepth(x) < 0 {
		return 0, impl.ExprForm
	}
	stack := []*big.Int{}
	pop := func() *big.Int {
		top := stack[len(stack)-1]
		stack = stack[:len(stack)-1]
		return top
	}
	for _, t := range x {
		var next *big.Int
		switch t.Op {
		case impl.OpConst:
			next = big.NewInt(int64(t.N))
		case impl.OpKey:
			next = big.NewInt(int64(e.Key))
		case impl.OpVal:
			next = big.NewInt(int64(e.Val))
		case impl.OpTime:
			next = big.NewInt(int64(e.Time))
		case impl.OpNot:
			next = plainBit(pop().Sign() == 0)
		default:
			b := pop()
			a := pop()
			if t.Op == impl.OpDiv && b.Sign() == 0 {
				return 0, impl.ExprZero
			}
			next = plainPair(t.Op, a, b)
		}
		if !next.IsInt64() {
			return 0, impl.ExprOver
		}
		stack = append(stack, next)
	}
	return int(stack[0].Int64()), impl.ExprFine
}

func someElems() []impl.Elem {
	return []impl.Elem{
		{},
		{Src: 1, Key: 3, Val: 5, Time: 9},
		{Src: 3, Key: 15, Val: -7, Time: 2},
		{Src: -1, Key: math.MaxInt, Val: math.MinInt, Time: -1},
		{Src: 7, Key: -2, Val: math.MaxInt, Time: math.MinInt},
	}
}

func sameExpr(x []impl.Tok, y []impl.Tok) bool {
	if len(x) != len(y) {
		return false
	}
	for i := range x {
		if x[i] != y[i] {
			return false
		}
	}
	return true
}

// checkExpr compares every function with the plain definitions, and P5 for this expression.
func checkExpr(t *testing.T, x []impl.Tok) {
	t.Helper()
	depth := plainDepth(x)
	if impl.ExprOk(x) != (depth >= 0) || impl.ExprDepth(x) != depth {
		t.Fatal(x, impl.ExprOk(x), impl.ExprDepth(x), depth)
	}
	want := ""
	if depth >= 0 {
		want = plainText(x)
		if back, ok := impl.ExprRead(want); !ok || !sameExpr(back, x) {
			t.Fatal(want, back, ok)
		}
	}
	if got := impl.ExprText(x); got != want {
		t.Fatal(x, got, want)
	}
	for _, e := range someElems() {
		n, code := impl.ExprRun(x, e)
		wantN, wantCode := plainRun(x, e)
		if n != wantN || code != wantCode {
			t.Fatal(x, e, n, code, wantN, wantCode)
		}
		checkDifference(t, x, e, code)
	}
}

func checkDifference(t *testing.T, x []impl.Tok, e impl.Elem, code int) {
	t.Helper()
	both := append(append([]impl.Tok{}, x...), x...)
	both = append(both, impl.Tok{Op: impl.OpSub})
	if impl.ExprOk(both) != (impl.ExprOk(x) && len(both) <= impl.MaxExpr) {
		t.Fatal(both)
	}
	if !impl.ExprOk(both) {
		code = impl.ExprForm
	}
	if n, got := impl.ExprRun(both, e); n != 0 || got != code {
		t.Fatal(both, e, n, got, code)
	}
}

// everyExpr visits all lists of up to the given number of tokens.
func everyExpr(list []impl.Tok, most int, visit func(x []impl.Tok)) {
	x := []impl.Tok{}
	var extend func()
	extend = func() {
		visit(x)
		if len(x) == most {
			return
		}
		for _, t := range list {
			x = append(x, t)
			extend()
			x = x[:len(x)-1]
		}
	}
	extend()
}

func allOps() []impl.Tok {
	list := []impl.Tok{}
	for op := impl.OpConst; op <= impl.OpNot; op++ {
		list = append(list, impl.Tok{Op: op})
	}
	return list
}

func pushes(n int) []impl.Tok { return make([]impl.Tok, n) }

func repeated(x []impl.Tok, t impl.Tok, n int) []impl.Tok {
	for i := 0; i < n; i++ {
		x = append(x, t)
	}
	return x
}

func mustRead(t *testing.T, s string) []impl.Tok {
	t.Helper()
	x, ok := impl.ExprRead(s)
	if !ok {
		t.Fatal(s)
	}
	return x
}

func checkRun(t *testing.T, s string, e impl.Elem, wantN int, wantCode int) {
	t.Helper()
	if n, code := impl.ExprRun(mustRead(t, s), e); n != wantN || code != wantCode {
		t.Fatal(s, n, code, wantN, wantCode)
	}
}

func TestP5EveryShortExpression(t *testing.T) {
	list := append(allOps(), impl.Tok{N: 1}, impl.Tok{N: -7}, impl.Tok{N: math.MaxInt}, impl.Tok{N: math.MinInt})
	everyExpr(list, 3, func(x []impl.Tok) { checkExpr(t, x) })
}

func TestP5EveryShapeOfFiveTokens(t *testing.T) {
	list := []impl.Tok{{N: -1}, {Op: impl.OpVal}, {Op: impl.OpTime}, {Op: impl.OpSub}, {Op: impl.OpMul}, {Op: impl.OpDiv}, {Op: impl.OpNot}}
	everyExpr(list, 5, func(x []impl.Tok) { checkExpr(t, x) })
}

func TestP5LongExpressions(t *testing.T) {
	seed := uint64(3)
	next := func(n int) int {
		seed ^= seed << 13
		seed ^= seed >> 7
		seed ^= seed << 17
		return int(seed % uint64(n))
	}
	numbers := someInts()
	for i := 0; i < 4000; i++ {
		x := []impl.Tok{}
		depth := 0
		for left := 1 + next(impl.MaxExpr); left > 0; left-- {
			tok := impl.Tok{}
			switch {
			case depth < 1 || depth < left && next(2) == 0:
				tok.Op = next(impl.OpTime + 1)
				depth++
			case depth < 2 || depth <= left && next(5) == 0:
				tok.Op = impl.OpNot
			default:
				tok.Op = impl.OpAdd + next(7)
				depth--
			}
			if tok.Op == impl.OpConst {
				tok.N = numbers[next(len(numbers))]
			}
			x = append(x, tok)
		}
		if !impl.ExprOk(x) {
			t.Fatal(x)
		}
		checkExpr(t, x)
	}
}

func TestExprPairsOfNumbers(t *testing.T) {
	for _, a := range someInts() {
		for _, b := range someInts() {
			for op := impl.OpAdd; op <= impl.OpAnd; op++ {
				x := []impl.Tok{{N: a}, {Op: impl.OpVal}, {Op: op}}
				e := impl.Elem{Val: b}
				n, code := impl.ExprRun(x, e)
				if wantN, wantCode := plainRun(x, e); n != wantN || code != wantCode {
					t.Fatal(a, b, op, n, code, wantN, wantCode)
				}
			}
		}
	}
}

func TestExprRange(t *testing.T) {
	const most, least = "9223372036854775807", "-9223372036854775808"
	for _, c := range []struct {
		s    string
		n    int
		code int
	}{
		{"9223372036854775806 1 +", math.MaxInt, impl.ExprFine},
		{most + " 1 +", 0, impl.ExprOver},
		{"-9223372036854775807 -1 +", math.MinInt, impl.ExprFine},
		{least + " -1 +", 0, impl.ExprOver},
		{"-1 " + least + " -", math.MaxInt, impl.ExprFine},
		{"0 " + least + " -", 0, impl.ExprOver},
		{"-1 " + most + " -", math.MinInt, impl.ExprFine},
		{"-2 " + most + " -", 0, impl.ExprOver},
		{"4611686018427387904 -2 *", math.MinInt, impl.ExprFine},
		{"4611686018427387904 2 *", 0, impl.ExprOver},
		{"-4611686018427387904 -2 *", 0, impl.ExprOver},
		{"7 1317624576693539401 *", math.MaxInt, impl.ExprFine},
		{"-7 -1317624576693539401 *", math.MaxInt, impl.ExprFine},
		{"3 -3074457345618258603 *", 0, impl.ExprOver},
		{least + " 1 *", math.MinInt, impl.ExprFine},
		{least + " -1 *", 0, impl.ExprOver},
		{"-1 " + least + " *", 0, impl.ExprOver},
		{least + " " + least + " *", 0, impl.ExprOver},
		{least + " 0 *", 0, impl.ExprFine},
		{"4294967296 4294967296 *", 0, impl.ExprOver},
		{least + " -1 /", 0, impl.ExprOver},
		{least + " 1 /", math.MinInt, impl.ExprFine},
		{"-9223372036854775807 -1 /", math.MaxInt, impl.ExprFine},
		{most + " -1 /", -math.MaxInt, impl.ExprFine},
		{least + " 2 /", -1 << 62, impl.ExprFine},
		{least + " " + least + " /", 1, impl.ExprFine},
		{least + " 0 /", 0, impl.ExprZero},
		{"0 0 /", 0, impl.ExprZero},
		{"0 -1 /", 0, impl.ExprFine},
	} {
		checkRun(t, c.s, impl.Elem{}, c.n, c.code)
	}
}

func TestExprQuotientsAreTruncated(t *testing.T) {
	for _, c := range []struct {
		s string
		n int
	}{{"7 2 /", 3}, {"-7 2 /", -3}, {"7 -2 /", -3}, {"-7 -2 /", 3}, {"-1 2 /", 0}, {"1 -2 /", 0}, {"-6 2 /", -3}} {
		checkRun(t, c.s, impl.Elem{}, c.n, impl.ExprFine)
	}
}

func TestExprFirstFailureCounts(t *testing.T) {
	e := impl.Elem{Val: math.MaxInt}
	for _, c := range []struct {
		s    string
		code int
	}{
		{"val 1 + 0 /", impl.ExprOver},
		{"1 0 / val 1 + +", impl.ExprZero},
		{"val 1 + 1 0 / +", impl.ExprOver},
		{"1 0 / val val * +", impl.ExprZero},
		{"0 1 0 / &", impl.ExprZero},
		{"val val * 0 *", impl.ExprOver},
		{"val val + val - val -", impl.ExprOver},
	} {
		checkRun(t, c.s, e, 0, c.code)
	}
	// The form is examined over the whole expression before any token runs.
	for _, x := range [][]impl.Tok{
		{{N: 1}, {}, {Op: impl.OpDiv}, {Op: impl.OpAdd}},
		{{N: 1}, {}, {Op: impl.OpDiv}, {}},
		{{N: 1}, {}, {Op: impl.OpDiv}, {Op: impl.OpNot, N: 1}},
		{{Op: impl.OpVal}, {Op: impl.OpVal}, {Op: impl.OpMul}, {Op: 12}},
	} {
		if n, code := impl.ExprRun(x, e); n != 0 || code != impl.ExprForm {
			t.Fatal(x, n, code)
		}
	}
}

func TestExprFields(t *testing.T) {
	e := impl.Elem{Src: 2, Key: 3, Val: 5, Time: 9}
	for _, c := range []struct {
		s string
		n int
	}{
		{"key", 3}, {"val", 5}, {"time", 9}, {"val 2 * key +", 13}, {"time val -", 4}, {"val time -", -4},
		{"key time <", 1}, {"time key <", 0}, {"key key <", 0}, {"val 5 =", 1}, {"val 4 =", 0},
		{"val key &", 1}, {"val 0 &", 0}, {"0 val &", 0}, {"0 0 &", 0}, {"-1 -2 &", 1}, {"1 2 &", 1},
		{"0 !", 1}, {"1 !", 0}, {"-3 !", 0}, {"val ! !", 1}, {"-5", -5},
	} {
		checkRun(t, c.s, e, c.n, impl.ExprFine)
	}
}

func TestExprSizes(t *testing.T) {
	one := pushes(1)
	whole := repeated(pushes(1), impl.Tok{Op: impl.OpNot}, impl.MaxExpr-1)
	deep := append(repeated(pushes(10), impl.Tok{Op: impl.OpAdd}, 9), impl.Tok{Op: impl.OpNot})
	for _, x := range [][]impl.Tok{one, whole, deep} {
		checkExpr(t, x)
		if !impl.ExprOk(x) {
			t.Fatal(x)
		}
	}
	if impl.ExprDepth(one) != 1 || impl.ExprDepth(whole) != 1 || impl.ExprDepth(deep) != 10 {
		t.Fatal("depth")
	}
	for _, x := range [][]impl.Tok{nil, {}, append(whole, impl.Tok{Op: impl.OpNot}), append(deep, impl.Tok{Op: impl.OpNot}), repeated(pushes(11), impl.Tok{Op: impl.OpAdd}, 10)} {
		refuseExpr(t, x)
	}
	text := "1" + strings.Repeat(" !", impl.MaxExpr-1)
	if x := mustRead(t, text); len(x) != impl.MaxExpr {
		t.Fatal(x)
	}
	for _, s := range []string{text + " !", text + " !" + strings.Repeat(" !", 1000)} {
		refuseText(t, s)
	}
}

func refuseExpr(t *testing.T, x []impl.Tok) {
	t.Helper()
	n, code := impl.ExprRun(x, impl.Elem{Key: 1, Val: 1, Time: 1})
	if impl.ExprOk(x) || impl.ExprDepth(x) != -1 || n != 0 || code != impl.ExprForm || impl.ExprText(x) != "" {
		t.Fatal(x, impl.ExprDepth(x), n, code, impl.ExprText(x))
	}
}

func refuseText(t *testing.T, s string) {
	t.Helper()
	if x, ok := impl.ExprRead(s); ok || len(x) != 0 {
		t.Fatal(strconv.Quote(s), x, ok)
	}
}

func TestExprInvalid(t *testing.T) {
	for op := impl.OpKey; op <= impl.OpNot; op++ {
		before := pushes(2)
		if op <= impl.OpTime {
			before = nil
		} else if op == impl.OpNot {
			before = pushes(1)
		}
		good := append(append([]impl.Tok{}, before...), impl.Tok{Op: op})
		if !impl.ExprOk(good) {
			t.Fatal(good)
		}
		for _, n := range []int{1, -1, math.MaxInt, math.MinInt} {
			refuseExpr(t, append(append([]impl.Tok{}, before...), impl.Tok{Op: op, N: n}))
		}
		if len(before) > 0 {
			refuseExpr(t, good[1:])
			refuseExpr(t, []impl.Tok{{Op: op}})
			refuseExpr(t, append([]impl.Tok{{Op: op}}, good...))
		}
		refuseExpr(t, append(pushes(1), good...))
	}
	for _, op := range []int{-1, 12, 13, 256, 1 << 32, math.MaxInt, math.MinInt} {
		for before := 0; before < 4; before++ {
			refuseExpr(t, append(pushes(before), impl.Tok{Op: op}))
		}
	}
}

func TestExprReadInvalid(t *testing.T) {
	for _, s := range []string{
		"", " ", "  ", "+", "1 2", "1 +", "! 1", "1 2 + +", "1 2 3 +", "x", "val x",
		" val", "val ", "val  !", " val !", "val ! ", "val\t!", "val\n!", "val !\n", "val\u00a0!", "val\x00!", "val\r!",
		"01", "00", "-0", "-01", "+1", "+0", "--1", "1-", "- 1", "1_0", "0x1", "1e1", "1.0", "1,0", "٣", "-", "0b1", "0o7",
		"9223372036854775808", "-9223372036854775809", "18446744073709551616", "18446744073709551617", "99999999999999999999999999",
		"Key", "KEY", "keys", "ke", "valtime", "const", "src", "1 2+", "1 1 ==", "1 1 &&", "1 2 >", "1 not", "1!",
		"val 01 +", "val +1 +", "val 9223372036854775808 *", "val -0 /", "key val time",
	} {
		refuseText(t, s)
	}
	for _, s := range []string{"0", "-1", "10", "9223372036854775807", "-9223372036854775808"} {
		if x := mustRead(t, s); len(x) != 1 || x[0].Op != impl.OpConst || strconv.Itoa(x[0].N) != s {
			t.Fatal(s, x)
		}
	}
}

// Every text near a valid one is read only if it is exactly the text of what is read.
func TestP5ChangedTexts(t *testing.T) {
	for _, s := range []string{"val 2 * key +", "-7 2 /", "key time < !", "1 0 & val =", "time -10 -"} {
		for i := 0; i <= len(s); i++ {
			for c := 0; c < 256; c++ {
				texts := []string{s[:i] + string([]byte{byte(c)}) + s[i:]}
				if i < len(s) {
					texts = append(texts, s[:i]+string([]byte{byte(c)})+s[i+1:], s[:i]+s[i+1:])
				}
				for _, text := range texts {
					x, ok := impl.ExprRead(text)
					if ok != (len(x) > 0) || ok && (plainDepth(x) < 0 || plainText(x) != text) {
						t.Fatal(strconv.Quote(text), x, ok)
					}
				}
			}
		}
	}
}

func TestExprLeavesArguments(t *testing.T) {
	whole := []impl.Tok{{Op: impl.OpVal}, {N: 2}, {Op: impl.OpMul}, {Op: 99, N: 99}, {Op: impl.OpNot}}
	saved := append([]impl.Tok{}, whole...)
	x := whole[:3]
	if n, code := impl.ExprRun(x, impl.Elem{Val: 4}); n != 8 || code != impl.ExprFine || impl.ExprText(x) != "val 2 *" || impl.ExprDepth(x) != 2 || !impl.ExprOk(x) {
		t.Fatal(n, code)
	}
	if !sameExpr(whole, saved) {
		t.Fatal(whole)
	}
	first := mustRead(t, "val 2 *")
	second := mustRead(t, "val 2 *")
	first[0].Op = impl.OpKey
	if second[0].Op != impl.OpVal {
		t.Fatal(second)
	}
}
