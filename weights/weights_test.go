package weights_test

import (
	"bytes"
	"encoding/hex"
	"fmt"
	"math"
	"math/big"
	"math/rand/v2"
	"slices"
	"strings"
	"testing"

	"lighterman/api"
	"lighterman/bits"
	"lighterman/fse"
	"lighterman/normal"
	"lighterman/weights"
)

func ExampleWhole() {
	fmt.Println(weights.Whole([]byte{1}))
	// Output:
	// [1 1] lighterman: error 0
}

func ExampleCodes() {
	codes, _ := weights.Codes([]byte{2, 1, 1})
	for _, c := range codes {
		fmt.Printf("%0*b\n", c.Bits, c.Code)
	}
	// Output:
	// 1
	// 00
	// 01
}

func ExampleRead() {
	l, err := weights.Of([]uint32{300, 0, 100, 50})
	fmt.Println(l, err == api.OK)
	b, err := weights.Write(l)
	fmt.Println(b, err == api.OK)
	again, used, err := weights.Read(append(b, 7, 8))
	fmt.Println(again, used, err == api.OK)
	// Output:
	// [2 0 1 1] true
	// [130 32 16] true
	// [2 0 1 1] 3 true
}

// each is a list of n times the same.
func each[T any](n int, x T) []T { return slices.Repeat([]T{x}, n) }

// then are lists one behind the other.
func then[T any](lists ...[]T) []T { return slices.Concat(lists...) }

// falling are the weights from one down to 1.
func falling(from int) []byte {
	var l []byte
	for w := from; w > 0; w-- {
		l = append(l, byte(w))
	}
	return l
}

// worthOf is what weights are worth together, by the words of it.
func worthOf(l []byte) float64 {
	sum := 0.0
	for _, w := range l {
		if w > 0 {
			sum += math.Pow(2, float64(w)-1)
		}
	}
	return sum
}

// mayBe tells the depth of whole weights, and whether they may be, by the words of it.
func mayBe(l []byte) (int, bool) {
	if len(l) < 2 || len(l) > 256 || l[len(l)-1] == 0 {
		return 0, false
	}
	for depth := 1; depth <= 11; depth++ {
		if worthOf(l) == math.Pow(2, float64(depth)) {
			return depth, int(slices.Max(l)) <= min(depth, 11)
		}
	}
	return 0, false
}

// wholeInWords is what P8.1 says of Whole.
func wholeInWords(l []byte) ([]byte, api.Errno) {
	if len(l) == 0 || len(l) > 255 || slices.Max(l) > 11 || worthOf(l) == 0 {
		return nil, api.ErrForm
	}
	d := 1.0
	for math.Pow(2, d) <= worthOf(l) {
		d++
	}
	for w := range byte(12) {
		if d <= 11 && w > 0 && math.Pow(2, float64(w)-1) == math.Pow(2, d)-worthOf(l) {
			return then(l, []byte{w}), api.OK
		}
	}
	return nil, api.ErrForm
}

// codesInWords is what P8.1 says of codes of weights that may be.
func codesInWords(l []byte) []weights.Code {
	depth, _ := mayBe(l)
	codes := make([]weights.Code, len(l))
	ahead, first := weights.Code{}, true
	for w := 1; w <= 11; w++ {
		for symbol := range l {
			if int(l[symbol]) != w {
				continue
			}
			c := weights.Code{Bits: depth + 1 - w}
			if !first {
				shorter := int(math.Pow(2, float64(ahead.Bits-c.Bits)))
				if (ahead.Code+1)%shorter != 0 {
					panic("a rest")
				}
				c.Code = (ahead.Code + 1) / shorter
			}
			codes[symbol], ahead, first = c, c, false
		}
	}
	return codes
}

// statesInWords is what P8.2 says of weights by states.
func statesInWords(b []byte) ([]byte, api.Errno) {
	c, used, err := normal.Read(b, 6, 12)
	if err != api.OK {
		return nil, err
	}
	r, err := bits.NewBackward(b[used:])
	if err != api.OK {
		return nil, err
	}
	table, err := fse.Build(c)
	if err != api.OK {
		return nil, err
	}
	mine := fse.Start(table, r)
	other := fse.Start(table, r)
	if r.Left() < 0 {
		return nil, api.ErrForm
	}
	var told []byte
	for len(told) <= 255 {
		told = append(told, table.Entries[mine].Symbol)
		if r.Left() < table.Entries[mine].Bits {
			told = append(told, table.Entries[other].Symbol)
			break
		}
		mine, other = other, fse.Next(table, mine, r)
	}
	if len(told) > 255 {
		return nil, api.ErrForm
	}
	return told, api.OK
}

// readInWords is what P8.2 says of Read.
func readInWords(b []byte) ([]byte, int, api.Errno) {
	if len(b) == 0 {
		return nil, 0, api.ErrShort
	}
	var told []byte
	size := int(b[0])
	if h := size; h >= 128 {
		size = int(math.Ceil(float64(h-127) / 2))
		if len(b) < 1+size {
			return nil, 0, api.ErrShort
		}
		for _, digit := range hex.EncodeToString(b[1:])[:h-127] {
			told = append(told, byte(strings.IndexRune("0123456789abcdef", digit)))
		}
	} else {
		if len(b) < 1+size {
			return nil, 0, api.ErrShort
		}
		var err api.Errno
		told, err = statesInWords(b[1 : 1+size])
		if err != api.OK {
			return nil, 0, err
		}
	}
	whole, err := wholeInWords(told)
	if err != api.OK {
		return nil, 0, err
	}
	return whole, 1 + size, api.OK
}

// split are n whole weights of chance of this depth, above 0, in any order.
func split(r *rand.Rand, n, depth int) []byte {
	l := []byte{byte(depth), byte(depth)}
	for len(l) < n {
		i := r.IntN(len(l))
		if l[i] > 1 {
			l[i]--
			l = append(l, l[i])
		}
	}
	r.Shuffle(len(l), func(i, j int) { l[i], l[j] = l[j], l[i] })
	return l
}

// scattered are weights among noughts, in the same order, n of them in all, the last one at the end.
func scattered(r *rand.Rand, l []byte, n int) []byte {
	places := r.Perm(n - 1)[:len(l)-1]
	slices.Sort(places)
	all := make([]byte, n)
	for i, place := range places {
		all[place] = l[i]
	}
	all[n-1] = l[len(l)-1]
	return all
}

// someWhole are n whole weights of chance that may be.
func someWhole(r *rand.Rand, n int) []byte {
	there := 2 + r.IntN(n-1)
	depth := 1
	for 1<<depth < there {
		depth++
	}
	return scattered(r, split(r, there, depth+r.IntN(12-depth)), n)
}

// lists calls f with all lists of at most so many numbers, each up to most.
func lists(size int, most byte, f func(l []byte)) {
	var grow func(l []byte)
	grow = func(l []byte) {
		f(l)
		if len(l) < size {
			for w := range most + 1 {
				grow(append(slices.Clone(l), w))
			}
		}
	}
	grow(nil)
}

// wantWhole fails, unless Whole tells this.
func wantWhole(t *testing.T, l, want []byte, wantErr api.Errno) {
	t.Helper()
	kept := slices.Clone(l)
	whole, err := weights.Whole(l)
	if !bytes.Equal(whole, want) || err != wantErr {
		t.Errorf("Whole(%d): %d, %d; want %d, %d", kept, whole, err, want, wantErr)
	}
	if err == api.OK && len(l) > 0 {
		whole[0]++
	}
	if !bytes.Equal(l, kept) {
		t.Errorf("Whole changed %d, or what it answers shares memory with it", kept)
	}
}

// wantWholeInWords fails, unless Whole tells what P8.1 says.
func wantWholeInWords(t *testing.T, l []byte) {
	t.Helper()
	want, err := wholeInWords(l)
	wantWhole(t, l, want, err)
	if _, fine := mayBe(want); err == api.OK && !fine {
		t.Errorf("Whole(%d): %d, that may not be", l, want)
	}
}

// wantCodes fails, unless Codes tells what P8.1 says.
func wantCodes(t *testing.T, l []byte) {
	t.Helper()
	kept := slices.Clone(l)
	codes, err := weights.Codes(l)
	if want := codesInWords(kept); err != api.OK || !slices.Equal(codes, want) {
		t.Errorf("Codes(%d): %d, %d; want %d", kept, codes, err, want)
	}
	if !bytes.Equal(l, kept) {
		t.Errorf("Codes changed %d to %d", kept, l)
	}
}

func wantCodesErr(t *testing.T, l []byte) {
	t.Helper()
	if codes, err := weights.Codes(l); codes != nil || err != api.ErrArg {
		t.Errorf("Codes(%d): %d, %d; want error %d", l, codes, err, api.ErrArg)
	}
}

// wantRead fails, unless Read tells this; beside an error nothing else may be told.
func wantRead(t *testing.T, b, want []byte, used int, wantErr api.Errno) {
	t.Helper()
	kept := slices.Clone(b)
	l, n, err := weights.Read(b)
	if !bytes.Equal(l, want) || n != used || err != wantErr || err != api.OK && l != nil {
		t.Errorf("Read(%d): %d, %d, %d; want %d, %d, %d", b, l, n, err, want, used, wantErr)
	}
	if !bytes.Equal(b, kept) {
		t.Errorf("Read changed %d to %d", kept, b)
	}
}

func wantReadErr(t *testing.T, b []byte, want api.Errno) {
	t.Helper()
	wantRead(t, b, nil, 0, want)
}

// wantReadWhole fails, unless a description is read as whole weights with all its bytes, with and without others behind, and is short of each one that lacks.
func wantReadWhole(t *testing.T, b, want []byte) {
	t.Helper()
	wantRead(t, b, want, len(b), api.OK)
	wantRead(t, then(b, []byte{255}), want, len(b), api.OK)
	wantRead(t, then(b, []byte{0, 7, 128, 0}), want, len(b), api.OK)
	for n := range b {
		wantReadErr(t, b[:n], api.ErrShort)
	}
}

// wantReadInWords fails, unless Read tells what P8.2 says.
func wantReadInWords(t *testing.T, b []byte) {
	t.Helper()
	l, n, err := readInWords(b)
	wantRead(t, b, l, n, err)
}

// refused are lists that may not be as whole weights, by why they may not.
func refused() map[string][]byte {
	return map[string][]byte{
		"none":                      nil,
		"none, not nil":             {},
		"0 alone":                   {0},
		"1 alone":                   {1},
		"2 alone, worth a power":    {2},
		"11 alone":                  {11},
		"12 alone":                  {12},
		"noughts":                   {0, 0},
		"many noughts":              each[byte](256, 0),
		"last one 0":                {1, 1, 0},
		"last ones 0":               {2, 1, 1, 0, 0},
		"1 among noughts":           {0, 1},
		"above the depth, 2":        {0, 2},
		"above the depth, 5":        {0, 0, 5},
		"above the depth, 11":       {0, 11},
		"three times 1":             {1, 1, 1},
		"one less than a power":     {2, 1},
		"one more than a power":     {2, 1, 1, 1},
		"far from a power":          {3, 3, 2},
		"2047":                      falling(11),
		"2049":                      then(falling(11), []byte{1, 1}),
		"depth of 12":               {11, 11, 11, 11},
		"depth of 12, one less":     {11, 11, 11, 10, 9, 8, 7, 6, 5, 4, 3, 2, 1},
		"depth of 12, by ones":      then(each[byte](3, 11), falling(10), []byte{1}),
		"12, depth of 12":           {12, 12},
		"12, depth of 12, many":     then([]byte{12}, falling(11), []byte{1}),
		"12 ahead":                  {12, 1, 1},
		"great":                     {255, 255},
		"great, worth 0 by 64 bits": {65, 1, 1},
		"great, worth 0 by 32 bits": {33, 1, 1},
		"great, worth 1 by 256":     {1, 129, 1},
		"great, the last one":       {1, 1, 65},
		"257, worth a power":        then(each[byte](255, 0), []byte{1, 1}),
		"257, many of them":         then(each[byte](255, 1), []byte{1, 9}),
		"257, a power of 1":         then([]byte{0}, each[byte](256, 1)),
		"513":                       then(each[byte](511, 0), []byte{1, 1}),
	}
}

// edges are whole weights that may be, at the edges and between them.
func edges() [][]byte {
	all := [][]byte{
		{1, 1}, {2, 2}, {11, 11}, {2, 1, 1}, {1, 2, 1}, {1, 1, 2}, {0, 1, 1}, {1, 0, 1}, {2, 0, 1, 1}, {3, 2, 2}, {3, 1, 1, 2, 0, 0, 4},
		then(falling(11), []byte{1}), then([]byte{1}, falling(11)), {11, 10, 10}, then(each[byte](200, 0), []byte{10, 0, 10, 11}),
		each[byte](256, 1), each[byte](256, 2), each[byte](256, 3), each[byte](256, 4), each[byte](128, 1), each[byte](128, 5), each[byte](4, 10),
		then(each[byte](254, 0), []byte{1, 1}), then([]byte{1}, each[byte](254, 0), []byte{1}), then([]byte{11}, each[byte](254, 0), []byte{11}),
		then(each[byte](127, 0), []byte{1, 1}), then(each[byte](128, 0), []byte{1, 1}), then([]byte{7}, each[byte](128, 0), []byte{7}),
	}
	r := rand.New(rand.NewPCG(8, 1))
	for n := 2; n <= 256; n++ {
		all = append(all, someWhole(r, n))
	}
	for depth := 1; depth <= 11; depth++ {
		most := min(256, 1<<depth)
		all = append(all, split(r, 2, depth), split(r, most, depth), scattered(r, split(r, 2, depth), 256))
	}
	return all
}

// P8.1

func TestWholeOfOneWeight(t *testing.T) {
	for w := range 256 {
		if w >= 1 && w <= 11 {
			wantWhole(t, []byte{byte(w)}, []byte{byte(w), byte(w)}, api.OK)
			continue
		}
		wantWhole(t, []byte{byte(w)}, nil, api.ErrForm)
	}
}

func TestWholeWrittenOut(t *testing.T) {
	for _, c := range []struct{ l, want []byte }{
		{[]byte{1}, []byte{1, 1}},
		{[]byte{2, 1}, []byte{2, 1, 1}},
		{[]byte{1, 1}, []byte{1, 1, 2}},
		{[]byte{0, 1}, []byte{0, 1, 1}},
		{[]byte{1, 0}, []byte{1, 0, 1}},
		{[]byte{1, 1, 0, 0}, []byte{1, 1, 0, 0, 2}},
		{[]byte{3, 2, 1}, []byte{3, 2, 1, 1}},
		{[]byte{3, 2}, []byte{3, 2, 2}},
		{[]byte{3}, []byte{3, 3}},
		{[]byte{3, 2, 1, 1}, []byte{3, 2, 1, 1, 4}},
		{[]byte{2, 2, 2}, []byte{2, 2, 2, 2}},
		{[]byte{2, 2, 1, 1}, []byte{2, 2, 1, 1, 2}},
		{each[byte](8, 1), then(each[byte](8, 1), []byte{4})},
		{each[byte](7, 1), then(each[byte](7, 1), []byte{1})},
		{each[byte](6, 1), then(each[byte](6, 1), []byte{2})},
		{each[byte](255, 1), each[byte](256, 1)},
		{each[byte](255, 4), each[byte](256, 4)},
		{then(each[byte](254, 0), []byte{5}), then(each[byte](254, 0), []byte{5, 5})},
		{falling(11), then(falling(11), []byte{1})},
		{falling(10), then(falling(10), []byte{1})},
		{then(falling(10), []byte{1}), then(falling(10), []byte{1, 11})},
		{[]byte{11}, []byte{11, 11}},
		{[]byte{11, 10}, []byte{11, 10, 10}},
		{[]byte{10, 10}, []byte{10, 10, 11}},
	} {
		wantWhole(t, c.l, c.want, api.OK)
		if want, err := wholeInWords(c.l); !bytes.Equal(want, c.want) || err != api.OK {
			t.Errorf("%d in words: %d, %d", c.l, want, err)
		}
	}
}

func TestWholeRefuses(t *testing.T) {
	for name, l := range map[string][]byte{
		"none":                  nil,
		"none, not nil":         {},
		"0":                     {0},
		"noughts":               {0, 0, 0},
		"255 noughts":           each[byte](255, 0),
		"256, worth 256":        each[byte](256, 1),
		"256, worth 1":          then(each[byte](255, 0), []byte{1}),
		"256, the last ones 0":  then([]byte{1, 1}, each[byte](254, 0)),
		"257, worth 257":        each[byte](257, 1),
		"1000":                  then([]byte{1}, each[byte](999, 0)),
		"12":                    {12},
		"12 among others":       {1, 12, 1},
		"12, the last one":      {1, 1, 12},
		"13":                    {13, 1},
		"255":                   {1, 255},
		"worth 0 by 64 bits":    {1, 65},
		"worth 0 by 32 bits":    {33, 1},
		"worth 5":               {3, 1},
		"worth 9":               {4, 1},
		"worth 10":              {4, 2},
		"worth 11":              {4, 2, 1},
		"worth 1025, depth 11":  then(falling(10), []byte{1, 1}),
		"worth 2045":            {11, 10, 9, 8, 7, 6, 5, 4, 3, 1},
		"worth 2048, depth 12":  {11, 11},
		"worth 2048 by all":     then(falling(11), []byte{1}),
		"worth 2049":            {11, 11, 1},
		"worth 3072, depth 12":  {11, 11, 11},
		"worth 4095, depth 12":  then([]byte{11, 11}, falling(11)),
		"worth 4096, depth 13":  {11, 11, 11, 11},
		"255 of 11":             each[byte](255, 11),
		"255 of 5, worth 4080":  each[byte](255, 5),
		"241 of 1, not a power": each[byte](241, 1),
		"worth 5 among noughts": {0, 0, 3, 0, 1},
	} {
		t.Run(name, func(t *testing.T) { wantWhole(t, l, nil, api.ErrForm) })
	}
}

// How much is left, by what they are worth, from 1 to above 2^11, by weights of 11 and fewer.
func TestWholeByWorth(t *testing.T) {
	for sum := 1; sum < 4100; sum++ {
		var l []byte
		left := sum
		for w := 11; w > 0; w-- {
			for left >= 1<<(w-1) {
				l = append(l, byte(w))
				left -= 1 << (w - 1)
			}
		}
		power := 1
		for 1<<power <= sum {
			power++
		}
		want := []byte(nil)
		for w := 1; w <= 11 && power <= 11; w++ {
			if 1<<power-sum == 1<<(w-1) {
				want = then(l, []byte{byte(w)})
			}
		}
		err := api.OK
		if want == nil {
			err = api.ErrForm
		}
		wantWhole(t, l, want, err)
	}
}

func TestWholeOfAllFew(t *testing.T) {
	lists(3, 13, func(l []byte) { wantWholeInWords(t, l) })
	lists(6, 4, func(l []byte) { wantWholeInWords(t, l) })
}

func TestWholeOfManyKinds(t *testing.T) {
	for _, l := range edges() {
		n := len(l)
		wantWhole(t, l[:n-1], l, api.OK)
		wantWholeInWords(t, l)
	}
	r := rand.New(rand.NewPCG(8, 2))
	for range 3000 {
		n := 2 + r.IntN(255)
		l := someWhole(r, n)
		wantWhole(t, l[:n-1], l, api.OK)
		l[r.IntN(n)] = byte(r.IntN(14))
		wantWholeInWords(t, l[:n-1])
		wantWholeInWords(t, l)
	}
}

// spelt is a code in digits, its highest bit first.
func spelt(c weights.Code) string {
	if c == (weights.Code{}) {
		return "-"
	}
	return fmt.Sprintf("%0*b", c.Bits, c.Code)
}

func TestCodesWrittenOut(t *testing.T) {
	for _, c := range []struct {
		l    []byte
		want string
	}{
		{[]byte{1, 1}, "0 1"},
		{[]byte{2, 2}, "0 1"},
		{[]byte{11, 11}, "0 1"},
		{[]byte{0, 1, 1}, "- 0 1"},
		{[]byte{1, 0, 0, 1}, "0 - - 1"},
		{[]byte{2, 1, 1}, "1 00 01"},
		{[]byte{1, 2, 1}, "00 1 01"},
		{[]byte{1, 1, 2}, "00 01 1"},
		{[]byte{2, 0, 1, 1}, "1 - 00 01"},
		{[]byte{3, 2, 2}, "1 00 01"},
		{[]byte{3, 1, 2, 1}, "1 000 01 001"},
		{[]byte{4, 1, 2, 1, 2, 1, 1}, "1 0000 010 0001 011 0010 0011"},
		{[]byte{1, 1, 1, 1, 3, 3, 3}, "0000 0001 0010 0011 01 10 11"},
		{[]byte{4, 3, 2, 0, 1, 1}, "1 01 001 - 0000 0001"},
		{each[byte](8, 3), "000 001 010 011 100 101 110 111"},
		{then(falling(11), []byte{1}), "1 01 001 0001 00001 000001 0000001 00000001 000000001 0000000001 00000000000 00000000001"},
	} {
		codes, err := weights.Codes(c.l)
		var got []string
		for _, code := range codes {
			got = append(got, spelt(code))
		}
		if err != api.OK || strings.Join(got, " ") != c.want {
			t.Errorf("Codes(%d): %s, %d; want %s", c.l, got, err, c.want)
		}
	}
}

func TestCodesRefuse(t *testing.T) {
	for name, l := range refused() {
		t.Run(name, func(t *testing.T) {
			if depth, fine := mayBe(l); fine {
				t.Fatalf("%d may be, of depth %d", l, depth)
			}
			wantCodesErr(t, l)
		})
	}
}

func TestCodesOfAllFew(t *testing.T) {
	each := func(l []byte) {
		if _, fine := mayBe(l); fine {
			wantCodes(t, l)
			return
		}
		wantCodesErr(t, l)
	}
	lists(3, 13, each)
	lists(6, 4, each)
}

func TestCodesOfManyKinds(t *testing.T) {
	for _, l := range edges() {
		wantCodes(t, l)
		wantCodesErr(t, then(l, []byte{0}))
		if _, fine := mayBe(l[:len(l)-1]); !fine {
			wantCodesErr(t, l[:len(l)-1])
		}
	}
	r := rand.New(rand.NewPCG(8, 3))
	for range 3000 {
		n := 2 + r.IntN(255)
		l := someWhole(r, n)
		wantCodes(t, l)
		l[r.IntN(n)] = byte(r.IntN(14))
		if _, fine := mayBe(l); !fine {
			wantCodesErr(t, l)
		}
	}
}

// P8.2

// plain is a description of weights in half bytes, one digit each, by 16.
func plain(digits string) []byte {
	b, err := hex.DecodeString(digits + strings.Repeat("0", len(digits)%2))
	if err != nil {
		panic(err)
	}
	return then([]byte{byte(127 + len(digits))}, b)
}

// digitsOf are weights, one digit each, by 16.
func digitsOf(l []byte) string {
	var digits strings.Builder
	for _, w := range l {
		fmt.Fprintf(&digits, "%x", w)
	}
	return digits.String()
}

func TestReadOfNothing(t *testing.T) {
	wantReadErr(t, nil, api.ErrShort)
	wantReadErr(t, []byte{}, api.ErrShort)
}

func TestReadOfEachFirstByteAlone(t *testing.T) {
	for h := range 256 {
		wantReadErr(t, []byte{byte(h)}, api.ErrShort)
	}
}

func TestReadOfHalfBytesWrittenOut(t *testing.T) {
	wantReadWhole(t, []byte{128, 0x10}, []byte{1, 1})
	wantReadWhole(t, []byte{128, 0xb0}, []byte{11, 11})
	wantReadWhole(t, []byte{129, 0x21}, []byte{2, 1, 1})
	wantReadWhole(t, []byte{129, 0x12}, []byte{1, 2, 1})
	wantReadWhole(t, []byte{130, 0x20, 0x10}, []byte{2, 0, 1, 1})
	wantReadWhole(t, []byte{131, 0x43, 0x21}, []byte{4, 3, 2, 1, 1})
	wantReadWhole(t, []byte{132, 0x00, 0x12, 0x30}, []byte{0, 0, 1, 2, 3, 1})
	wantReadWhole(t, plain("ba987654321"), then(falling(11), []byte{1}))
	wantReadWhole(t, plain(strings.Repeat("0", 126)+"1"), then(each[byte](126, 0), []byte{1, 1}))
	wantReadWhole(t, plain(strings.Repeat("0", 127)+"1"), then(each[byte](127, 0), []byte{1, 1}))
	wantReadWhole(t, plain("7"+strings.Repeat("0", 127)), then([]byte{7}, each[byte](127, 0), []byte{7}))
	wantReadWhole(t, plain(strings.Repeat("3", 127)), each[byte](128, 3))
	wantReadWhole(t, plain(strings.Repeat("3", 128)), then(each[byte](128, 3), []byte{10}))
}

func TestReadOfEachNumberOfHalfBytes(t *testing.T) {
	r := rand.New(rand.NewPCG(8, 4))
	for n := 1; n <= 128; n++ {
		for range 10 {
			l := someWhole(r, n+1)
			b := plain(digitsOf(l[:n]))
			if int(b[0]) != 127+n || len(b) != 1+(n+1)/2 {
				t.Fatalf("%d weights: %d", n, b)
			}
			wantReadWhole(t, b, l)
		}
	}
}

func TestReadLeavesTheLastHalfByteThatIsNone(t *testing.T) {
	r := rand.New(rand.NewPCG(8, 5))
	for n := 1; n <= 128; n += 2 {
		l := someWhole(r, n+1)
		b := plain(digitsOf(l[:n]))
		for half := range byte(16) {
			b[len(b)-1] = b[len(b)-1]&0xf0 | half
			wantReadWhole(t, b, l)
		}
	}
}

func TestReadOfHalfBytesAbove11(t *testing.T) {
	for half := 12; half < 16; half++ {
		digit := fmt.Sprintf("%x", half)
		for _, digits := range []string{digit, digit + "1", "1" + digit, "1" + digit + "1", "11" + digit, "211" + digit, "2" + digit + "11", "c" + digit, digit + "ba987654321"} {
			wantReadErr(t, plain(digits), api.ErrForm)
			wantReadErr(t, then(plain(digits), []byte{0, 1}), api.ErrForm)
		}
		wantReadErr(t, plain(strings.Repeat("0", 127)+digit), api.ErrForm)
	}
}

func TestReadOfHalfBytesThatWholeRefuses(t *testing.T) {
	for _, digits := range []string{"0", "00", "000", strings.Repeat("0", 128), "31", "13", "41", "bb", "bbb", "ba9876543211", "a9876543211" + "1", strings.Repeat("b", 128), strings.Repeat("1", 113)} {
		if _, err := wholeInWords(l16(digits)); err != api.ErrForm {
			t.Errorf("%s in words: %d", digits, err)
		}
		b := plain(digits)
		wantReadErr(t, b, api.ErrForm)
		wantReadErr(t, then(b, []byte{0x11}), api.ErrForm)
		wantReadErr(t, b[:len(b)-1], api.ErrShort)
	}
}

// l16 are weights of digits by 16.
func l16(digits string) []byte {
	var l []byte
	for _, digit := range digits {
		l = append(l, byte(strings.IndexRune("0123456789abcdef", digit)))
	}
	return l
}

// counts are those of parts.
func counts(log int, parts ...int) normal.Counts { return normal.Counts{Log: log, Part: parts} }

// backward are bytes that are read from the back as these fields, each a number in digits, its highest bit first.
func backward(fields ...string) []byte {
	x, _ := new(big.Int).SetString("1"+strings.Join(fields, ""), 2)
	b := x.Bytes()
	slices.Reverse(b)
	return b
}

// forward are bytes that are read from the front as these fields, each a number in digits, its highest bit first.
func forward(fields ...string) []byte {
	w := bits.NewWriter()
	for _, field := range fields {
		for i := range field {
			w.Write(uint64(field[len(field)-1-i]-'0'), 1)
		}
	}
	return w.Out()
}

// sized is a description by states, of bytes that hold counts and bits.
func sized(parts ...[]byte) []byte {
	b := then(parts...)
	if len(b) > 127 {
		panic("too many bytes by states")
	}
	return then([]byte{byte(len(b))}, b)
}

// described are the bytes of counts.
func described(t *testing.T, c normal.Counts) []byte {
	t.Helper()
	b, err := normal.Write(c)
	if err != api.OK {
		t.Fatalf("Write(%v): %d", c, err)
	}
	return b
}

// digits2 is a number in so many digits, its highest bit first.
func digits2(x, n int) string { return fmt.Sprintf("%0*b", n, x)[:n] }

// byStates are the bits, in fields, that tell weights, two at least, by states of these counts, to the last bit; the weights must have states, and the last but one not the ones of all parts.
func byStates(t *testing.T, c normal.Counts, told []byte) []string {
	t.Helper()
	table, err := fse.Build(c)
	if err != api.OK {
		t.Fatalf("Build(%v): %d", c, err)
	}
	var states [2]int
	var fields []string
	for i := len(told) - 1; i >= 0; i-- {
		if i >= len(told)-2 {
			states[i%2], err = fse.First(table, told[i])
		} else {
			var x uint64
			var n int
			states[i%2], x, n, err = fse.Before(table, states[i%2], told[i])
			fields = append(fields, digits2(int(x), n))
		}
		if err != api.OK {
			t.Fatalf("weight %d of %d by %v: %d", i, told, c, err)
		}
	}
	fields = append(fields, digits2(states[1], c.Log), digits2(states[0], c.Log))
	slices.Reverse(fields)
	return fields
}

// halves are counts of Log 5: weights 1 and 2, each by 1 bit. Of 1 are the states 0, 1, 2, 5, 6, 10, 11, 14, 15, 19, 20, 23, 24, 25, 28, 29, of 2 the others; the first state of each leads to 0 or 1, the next one to 2 or 3, and so on.
func halves() normal.Counts { return counts(5, 0, 16, 16) }

// halvesLaid is their description: Log; 0 of left 32; no more noughts; 16 of left 32; 16 of left 16.
func halvesLaid() []byte { return forward("0000", "00001", "00", "10001", "11111") }

// rare are counts of Log 5: of 1 is state 31, with 5 bits; of 2 are the others: 0 leads by 1 bit to 30 or 31, each other one by none to the one below it.
func rare() normal.Counts { return counts(5, 0, -1, 31) }

func TestReadOfStatesWrittenOut(t *testing.T) {
	if b := described(t, halves()); !bytes.Equal(b, halvesLaid()) || len(b) != 3 {
		t.Fatalf("halves: %08b, %08b", b, halvesLaid())
	}
	wantReadWhole(t, []byte{5, 0x10, 0x88, 0x1f, 0x03, 0x04}, []byte{1, 2, 1})
	for _, c := range []struct {
		counts normal.Counts
		fields []string
		want   []byte
	}{
		// No bits behind the states: their symbols, the first one's first.
		{halves(), []string{"00000", "00001"}, []byte{1, 1, 2}},
		{halves(), []string{"00000", "00011"}, []byte{1, 2, 1}},
		{halves(), []string{"00011", "00000"}, []byte{2, 1, 1}},
		{halves(), []string{"11111", "11110"}, []byte{2, 2, 3}},
		// One bit: the first one goes on, and its new symbol is the last weight.
		{halves(), []string{"00000", "00011", "0"}, []byte{1, 2, 1, 3}},
		{halves(), []string{"00000", "00011", "1"}, []byte{1, 2, 1, 3}},
		{halves(), []string{"00011", "00000", "1"}, []byte{2, 1, 1, 3}},
		{halves(), []string{"11101", "00000", "1"}, []byte{1, 1, 2, 3}},
		// Two: both go on; three: the first one once more.
		{halves(), []string{"00001", "00001", "0", "0"}, []byte{1, 1, 1, 1, 3}},
		{halves(), []string{"00001", "00001", "1", "1"}, []byte{1, 1, 2, 2, 2}},
		{halves(), []string{"00001", "00001", "1", "0", "0"}, []byte{1, 1, 2, 1, 1, 2}},
		{halves(), []string{"00001", "00001", "0", "1", "1"}, []byte{1, 1, 1, 2, 1, 2}},
		// Fewer bits than the state has, and just as many.
		{rare(), []string{"11111", "11111"}, []byte{1, 1, 2}},
		{rare(), []string{"11111", "11111", "1"}, []byte{1, 1, 2}},
		{rare(), []string{"11111", "11111", "1111"}, []byte{1, 1, 2}},
		{rare(), []string{"11111", "11111", "11111"}, []byte{1, 1, 1, 1}},
		{rare(), []string{"11111", "11111", "11111", "0000"}, []byte{1, 1, 1, 1}},
		{rare(), []string{"11111", "11111", "11111", "11111"}, []byte{1, 1, 1, 1, 3}},
		// States without bits go on where no bit is left.
		{rare(), []string{"11111", "00001"}, []byte{1, 2, 1}},
		{rare(), []string{"00001", "00001"}, []byte{2, 2, 2, 2, 4}},
		{rare(), []string{"00000", "11111"}, []byte{2, 1, 1}},
		{rare(), []string{"00000", "00101"}, []byte{2, 2, 3}},
		{rare(), []string{"00011", "00011"}, []byte{2, 2, 2, 2, 2, 2, 2, 2, 5}},
	} {
		b := sized(described(t, c.counts), backward(c.fields...))
		wantReadWhole(t, b, c.want)
		wantReadInWords(t, b)
	}
}

// The descriptions were written by another program of the format.
func TestReadOfStatesWrittenElsewhere(t *testing.T) {
	for _, c := range []struct{ b, want string }{
		{
			"1c7015244d1b1ddbd3ca55db6d096a21db1251feffff31da1448ffc30b",
			strings.Repeat("0", 32) + "9" + strings.Repeat("0", 11) + "616" + strings.Repeat("0", 50) + "86779667814768861888756361",
		},
		{
			"39109833db3cf3305088ba314299e761a01075234630cfc340216ac408e6ca978a42d48d18c1b2142049daf04399e76180a16dc30f659e87010e",
			"111111111111111112233445566778" + "111111111111111112233445566777" + "111111111111111111233445566777" + "111111111111111112223344556777" + "111111111111111112233445566777" + "111111111111111112233444566777" + "11111111111111111223",
		},
		{
			"4c1028e4b007b80e80dd3a87e01dbc8a31b4d1641fee76bb27b22048374b298a31b47777ef0f4866452204a31c0fba6c768b3d910541ba594a518ca1bdbb7b7f40322b122118e578d065b32b01",
			"11122344451344134534245454541435435432544331555555555513344523453453414545454243543144" +
				"31544432211111223444513441345342454545414354354325443315555555555133445234534534145454" +
				"542435431443154443221111122334451344134534245454541435435432544331555554555513344523",
		},
	} {
		b, err := hex.DecodeString(c.b)
		if err != nil {
			t.Fatal(err)
		}
		wantReadWhole(t, b, l16(c.want))
		wantReadInWords(t, b)
	}
}

func TestReadPassesOnErrorsOfCounts(t *testing.T) {
	whole := then(halvesLaid(), backward("00000", "00001"))
	for h := range 3 {
		// Those bytes alone may hold the counts, whatever stands behind them.
		wantReadErr(t, then([]byte{byte(h)}, whole), api.ErrShort)
		wantReadErr(t, then([]byte{byte(h)}, whole[:h]), api.ErrShort)
	}
	for log := 7; log <= 20; log++ {
		wantReadErr(t, sized(forward(digits2(log-5, 4))), api.ErrBig)
		wantReadErr(t, sized(forward(digits2(log-5, 4)), each[byte](30, 255)), api.ErrBig)
	}
	wantReadErr(t, sized(described(t, counts(7, 0, 64, 64)), backward("0000000", "0000000")), api.ErrBig)
	wantReadErr(t, sized(described(t, counts(5, then(each(12, 0), []int{32})...)), []byte{1, 2, 3}), api.ErrForm)
	wantReadErr(t, sized(described(t, counts(5, then([]int{31}, each(11, 0), []int{1})...)), []byte{1, 2, 3}), api.ErrForm)
	wantReadErr(t, sized(described(t, counts(5, each(32, -1)...)), []byte{1, 2, 3}), api.ErrForm)
	wantReadErr(t, sized(described(t, counts(6, then([]int{0, 52}, each(11, 1), []int{1})...)), []byte{1, 2, 3}), api.ErrForm)
}

func TestReadOfStatesOfTheHighestWeight(t *testing.T) {
	// Of 11 are the highest states that have no others: 11, 10 and so on, by one state each.
	c := counts(5, -1, -1, -1, -1, -1, -1, -1, -1, -1, -1, 11, 11)
	for _, told := range [][]byte{{11, 10}, {11, 10, 9, 8, 7, 6, 5, 4, 3, 2, 1}, {10, 10, 0}, {0, 0, 11, 0}} {
		whole, err := wholeInWords(told)
		if err != api.OK {
			t.Fatalf("%d: %d", told, err)
		}
		wantReadWhole(t, sized(described(t, c), backward(byStates(t, c, told)...)), whole)
	}
}

func TestReadPassesOnErrorsOfBits(t *testing.T) {
	for _, c := range []normal.Counts{halves(), rare(), counts(6, 0, 32, 32)} {
		laid := described(t, c)
		wantReadErr(t, sized(laid), api.ErrForm)
		wantReadErr(t, then(sized(laid), backward("0000000000000")), api.ErrForm)
		for _, b := range [][]byte{{0}, {0, 0}, {255, 0}, {255, 255, 255, 0}} {
			wantReadErr(t, sized(laid, b), api.ErrForm)
			wantReadErr(t, then(sized(laid, b), []byte{255}), api.ErrForm)
		}
	}
}

func TestReadOfStatesThatLackBits(t *testing.T) {
	for _, c := range []normal.Counts{halves(), counts(6, 0, 32, 32), counts(5, 0, 31, 1), counts(6, 1, 1, 62)} {
		for n := range 2 * c.Log {
			for _, digit := range []string{"0", "1"} {
				b := sized(described(t, c), backward(strings.Repeat(digit, n)))
				wantReadErr(t, b, api.ErrForm)
				wantReadErr(t, then(b, []byte{1, 1, 1}), api.ErrForm)
				wantReadInWords(t, b)
			}
		}
	}
	wantReadWhole(t, sized(described(t, counts(6, 0, 32, 32)), backward("000000", "000000")), []byte{1, 1, 2})
}

func TestReadOfStatesThatNeverNeedBits(t *testing.T) {
	for log := 5; log <= 6; log++ {
		for weight := range 12 {
			c := counts(log, then(each(weight, 0), []int{1 << log})...)
			for _, fields := range [][]string{{digits2(0, 2*log)}, {digits2(1<<(2*log)-1, 2*log)}, {digits2(77, 2*log), "1", "01101"}} {
				wantReadErr(t, sized(described(t, c), backward(fields...)), api.ErrForm)
			}
		}
	}
}

func TestReadOfAllStates(t *testing.T) {
	for _, c := range []normal.Counts{
		halves(), rare(), counts(5, 31, 1), counts(5, 1, 31), counts(5, -1, 30, -1), counts(5, 0, 17, 15), counts(5, 8, 8, 8, 8),
		counts(5, 1, 2, 3, 4, 5, 6, 7, 1, 1, 1, -1), counts(5, 20, 1, 1, 1, 1, 1, 1, 1, 1, 1, 1, 2), counts(5, 0, 0, 0, 16, 16), counts(5, 2, 15, 15),
	} {
		laid := described(t, c)
		for x := range 1 << 10 {
			wantReadInWords(t, sized(laid, backward(digits2(x, 10))))
			wantReadInWords(t, sized(laid, backward(digits2(x, 10), digits2(x*7%8, 3))))
			wantReadInWords(t, sized(laid, backward(digits2(x, 10), digits2(x*77%512, 9))))
		}
	}
}

// likely are counts by which weights are told: about as often as they are.
func likely(t *testing.T, told []byte, log int) normal.Counts {
	t.Helper()
	often := make([]uint32, 12)
	for _, w := range told {
		often[w] += 2
	}
	often[told[0]^1]++ // so that there are two at least
	c, err := normal.Of(often, log)
	if err != api.OK {
		t.Fatalf("counts of %d: %d", told, err)
	}
	return c
}

func TestReadOfManyWeightsByStates(t *testing.T) {
	r := rand.New(rand.NewPCG(8, 6))
	read := 0
	for i := range 3000 {
		l := someWhole(r, 3+r.IntN(254))
		told := l[:len(l)-1]
		c := likely(t, told, 5+i%2)
		laid, stream := described(t, c), backward(byStates(t, c, told)...)
		if len(laid)+len(stream) > 127 {
			continue
		}
		read++
		wantReadWhole(t, sized(laid, stream), l)
		wantReadInWords(t, sized(laid, stream))
	}
	if read < 500 {
		t.Errorf("only %d were read", read)
	}
}

func TestReadOfHowManyWeightsByStates(t *testing.T) {
	for _, c := range []normal.Counts{halves(), counts(6, 0, 32, 32), counts(6, 0, 60, 1, 1, 1, -1)} {
		for n := 2; n < 700; n++ {
			told := each[byte](n, 1)
			stream := backward(byStates(t, c, told)...)
			laid := described(t, c)
			if len(laid)+len(stream) > 127 {
				break
			}
			want, err := wholeInWords(told)
			if n > 255 && err != api.ErrForm || n == 255 && err != api.OK {
				t.Fatalf("%d weights of 1: %d", n, err)
			}
			b := sized(laid, stream)
			wantReadInWords(t, b)
			if err == api.OK {
				wantReadWhole(t, b, want)
				continue
			}
			wantReadErr(t, b, api.ErrForm)
		}
	}
	// 254, 255 and 256, of which those ahead of the last one, or of the last two, may be.
	c := halves()
	for n, told := range map[int][]byte{
		254: then(each[byte](253, 1), []byte{2}),
		255: then(each[byte](254, 1), []byte{1}),
		256: then(each[byte](255, 1), []byte{1}),
		257: then(each[byte](255, 1), []byte{2, 2}),
		258: then(each[byte](254, 1), []byte{1, 2, 1, 2}),
		512: then(each[byte](255, 1), each[byte](257, 2)),
	} {
		b := sized(described(t, c), backward(byStates(t, c, told)...))
		switch {
		case len(told) != n:
			t.Fatalf("%d, not %d", len(told), n)
		case n < 256:
			wantReadWhole(t, b, then(told, []byte{1}))
		default:
			wantReadErr(t, b, api.ErrForm)
		}
	}
}

func TestReadOfStatesThatWholeRefuses(t *testing.T) {
	c := counts(6, 10, 9, 5, 5, 5, 5, 5, 5, 5, 5, 3, 2)
	for _, told := range [][]byte{
		{0, 0}, {0, 0, 0, 0, 0}, {3, 1}, {1, 3}, {4, 1, 1, 1}, {11, 11}, {11, 11, 0}, {11, 10, 9, 8, 7, 6, 5, 4, 3, 2, 1, 1}, {10, 9, 8, 7, 6, 5, 4, 3, 2, 1, 1, 1}, {11, 11, 11, 11},
	} {
		b := sized(described(t, c), backward(byStates(t, c, told)...))
		if got, err := statesInWords(b[1:]); err != api.OK || !bytes.Equal(got, told) {
			t.Fatalf("%d by states: %d, %d", told, got, err)
		}
		wantReadErr(t, b, api.ErrForm)
		wantReadErr(t, then(b, []byte{1, 1}), api.ErrForm)
		wantReadErr(t, b[:len(b)-1], api.ErrShort)
	}
}

func TestReadOfChance(t *testing.T) {
	r := rand.New(rand.NewPCG(8, 7))
	for range 50000 {
		b := make([]byte, r.IntN(140))
		for i := range b {
			b[i] = byte(r.Uint32())
		}
		if len(b) > 1 && r.IntN(4) > 0 {
			b[0] = byte(1 + r.IntN(len(b)-1))
			b[1] &= 0xf1 // a Log that may be
		}
		wantReadInWords(t, b)
	}
	for i := range 20000 {
		l := someWhole(r, 3+r.IntN(60))
		c := likely(t, l[:len(l)-1], 5+i%2)
		b := sized(described(t, c), backward(byStates(t, c, l[:len(l)-1])...))
		b[1+r.IntN(len(b)-1)] ^= 1 << r.IntN(8)
		wantReadInWords(t, b)
	}
}

func TestReadAnswersNewMemory(t *testing.T) {
	for _, b := range [][]byte{{130, 0x20, 0x10, 7}, sized(halvesLaid(), backward("00000", "00011"))} {
		one, _, _ := weights.Read(b)
		other, _, _ := weights.Read(b)
		want := slices.Clone(one)
		clear(one)
		clear(b)
		if !bytes.Equal(other, want) {
			t.Errorf("%d became %d", want, other)
		}
	}
}

// P8.3

// wantWritten fails, unless Write tells this.
func wantWritten(t *testing.T, l, want []byte, wantErr api.Errno) {
	t.Helper()
	kept := slices.Clone(l)
	b, err := weights.Write(l)
	if !bytes.Equal(b, want) || err != wantErr || err != api.OK && b != nil {
		t.Errorf("Write(%d): %d, %d; want %d, %d", l, b, err, want, wantErr)
	}
	if !bytes.Equal(l, kept) {
		t.Errorf("Write changed %d to %d", kept, l)
	}
}

func TestWriteWrittenOut(t *testing.T) {
	for _, c := range []struct{ l, want []byte }{
		{[]byte{1, 1}, []byte{128, 0x10}},
		{[]byte{11, 11}, []byte{128, 0xb0}},
		{[]byte{2, 1, 1}, []byte{129, 0x21}},
		{[]byte{1, 1, 2}, []byte{129, 0x11}},
		{[]byte{0, 0, 7, 7}, []byte{130, 0x00, 0x70}},
		{[]byte{2, 0, 1, 1}, []byte{130, 0x20, 0x10}},
		{[]byte{4, 3, 2, 1, 1}, []byte{131, 0x43, 0x21}},
		{then(falling(11), []byte{1}), []byte{138, 0xba, 0x98, 0x76, 0x54, 0x32, 0x10}},
		{each[byte](128, 3), then([]byte{254}, each[byte](63, 0x33), []byte{0x30})},
		{then(each[byte](128, 3), []byte{10}), then([]byte{255}, each[byte](64, 0x33))},
		{then(each[byte](127, 0), []byte{11, 11}), then([]byte{255}, each[byte](63, 0), []byte{0x0b})},
	} {
		wantWritten(t, c.l, c.want, api.OK)
	}
}

func TestWriteOfEachNumberOfWeights(t *testing.T) {
	r := rand.New(rand.NewPCG(8, 8))
	for n := 2; n <= 256; n++ {
		for range 10 {
			l := someWhole(r, n)
			if n > 129 {
				wantWritten(t, l, nil, api.ErrBig)
				continue
			}
			wantWritten(t, l, plain(digitsOf(l[:n-1])), api.OK)
		}
	}
}

func TestWriteRefuses(t *testing.T) {
	for name, l := range refused() {
		t.Run(name, func(t *testing.T) { wantWritten(t, l, nil, api.ErrArg) })
	}
	// Weights that may not be are told ahead of too many.
	for n := 129; n <= 257; n++ {
		wantWritten(t, each[byte](n, 0), nil, api.ErrArg)
		wantWritten(t, then(each[byte](n-1, 0), []byte{1}), nil, api.ErrArg)
		wantWritten(t, then([]byte{1, 1}, each[byte](n-2, 0)), nil, api.ErrArg)
	}
	wantWritten(t, each[byte](130, 1), nil, api.ErrArg)
	wantWritten(t, then(each[byte](129, 0), []byte{12}), nil, api.ErrArg)
	wantWritten(t, then(each[byte](128, 0), []byte{1, 1}), nil, api.ErrBig)
	wantWritten(t, then(each[byte](127, 0), []byte{1, 1}), then([]byte{255}, each[byte](63, 0), []byte{1}), api.OK)
	wantWritten(t, each[byte](256, 1), nil, api.ErrBig)
}

// P8.4

// wantOf fails, unless Of tells weights that may be, above 0 just for each symbol that is.
func wantOf(t *testing.T, often []uint32) []byte {
	t.Helper()
	kept := slices.Clone(often)
	l, err := weights.Of(often)
	if _, fine := mayBe(l); err != api.OK || !fine {
		t.Fatalf("Of(%d): %d, %d", often, l, err)
	}
	for symbol, n := range often {
		there := symbol < len(l) && l[symbol] > 0
		if there != (n > 0) {
			t.Errorf("Of(%d): %d, unlike at %d", often, l, symbol)
		}
	}
	if len(l) > len(often) || !slices.Equal(often, kept) {
		t.Errorf("Of(%d): %d; the numbers were %d", often, l, kept)
	}
	wantOrdered(t, often, l)
	return l
}

// wantOrdered fails, if a symbol that is more often than another one has a longer code.
func wantOrdered(t *testing.T, often []uint32, l []byte) {
	t.Helper()
	for i := range l {
		for j := range l {
			if often[i] > often[j] && l[i] < l[j] {
				t.Fatalf("Of(%d): %d, %d of symbol %d, %d of %d", often, l, l[i], i, l[j], j)
			}
		}
	}
}

func wantOfErr(t *testing.T, often []uint32) {
	t.Helper()
	if l, err := weights.Of(often); l != nil || err != api.ErrArg {
		t.Errorf("Of(%d): %d, %d; want error %d", often, l, err, api.ErrArg)
	}
}

// cost is how many bits all symbols have together.
func cost(often []uint32, l []byte) uint64 {
	depth, _ := mayBe(l)
	var sum uint64
	for symbol, w := range l {
		if w > 0 {
			sum += uint64(often[symbol]) * uint64(depth+1-int(w))
		}
	}
	return sum
}

// huffman is how many bits they have by Huffman's codes, and how long the longest of these is.
func huffman(often []uint32) (bits uint64, depth int) {
	type tree struct {
		sum   uint64
		depth int
	}
	var trees []tree
	for _, n := range often {
		if n > 0 {
			trees = append(trees, tree{uint64(n), 0})
		}
	}
	for len(trees) > 1 {
		slices.SortStableFunc(trees, func(a, b tree) int {
			if a.sum != b.sum {
				return int(int64(a.sum) - int64(b.sum))
			}
			return a.depth - b.depth
		})
		joined := tree{trees[0].sum + trees[1].sum, 1 + max(trees[0].depth, trees[1].depth)}
		bits += joined.sum
		trees = append(trees[2:], joined)
	}
	return bits, trees[0].depth
}

// fewest is how many bits they have at least by codes of at most 11 bits: of all shapes that codes may have together.
func fewest(often []uint32) uint64 {
	var falling []uint64
	for _, n := range often {
		if n > 0 {
			falling = append(falling, uint64(n))
		}
	}
	slices.Sort(falling)
	slices.Reverse(falling)
	least := uint64(math.MaxUint64)
	var grow func(length, slots int, rest []uint64, sum uint64)
	grow = func(length, slots int, rest []uint64, sum uint64) {
		switch {
		case len(rest) == 0:
			if slots == 0 {
				least = min(least, sum)
			}
			return
		case slots == 0 || length > 11 || slots > len(rest):
			return
		}
		for n := range slots + 1 {
			grow(length+1, 2*(slots-n), rest[n:], sum)
			sum += rest[min(n, len(rest)-1)] * uint64(length)
		}
	}
	grow(1, 2, falling, 0)
	return least
}

// powers are 1, 2, 4 and so on, n numbers.
func powers(n int) []uint32 {
	var often []uint32
	for i := range n {
		often = append(often, 1<<i)
	}
	return often
}

// fibonacci are 1, 1, 2, 3, 5 and so on, n numbers.
func fibonacci(n int) []uint32 {
	often := []uint32{1, 1}
	for len(often) < n {
		often = append(often, often[len(often)-1]+often[len(often)-2])
	}
	return often[:n]
}

func TestOfWrittenOut(t *testing.T) {
	for _, c := range []struct {
		often []uint32
		want  []byte
	}{
		{[]uint32{1, 1}, []byte{1, 1}},
		{[]uint32{1, 1 << 30}, []byte{1, 1}},
		{[]uint32{0, 7, 0, 9, 0}, []byte{0, 1, 0, 1}},
		{[]uint32{2, 1, 1}, []byte{2, 1, 1}},
		{[]uint32{1, 5, 1}, []byte{1, 2, 1}},
		{[]uint32{300, 0, 100, 50, 0, 0}, []byte{2, 0, 1, 1}},
		{[]uint32{8, 4, 2, 1, 1}, []byte{4, 3, 2, 1, 1}},
		{[]uint32{10, 10, 10, 11}, []byte{1, 1, 1, 1}},
		{each[uint32](256, 1), each[byte](256, 1)},
		{each[uint32](256, 1<<23-1), each[byte](256, 1)},
		{each[uint32](128, 99), each[byte](128, 1)},
		{then(each[uint32](254, 0), []uint32{3, 4}), then(each[byte](254, 0), []byte{1, 1})},
		{powers(12), []byte{1, 1, 2, 3, 4, 5, 6, 7, 8, 9, 10, 11}},
	} {
		l := wantOf(t, c.often)
		if !bytes.Equal(l, c.want) {
			t.Errorf("Of(%d): %d, want %d", c.often, l, c.want)
		}
	}
}

func TestOfRefuses(t *testing.T) {
	for name, often := range map[string][]uint32{
		"none":                   nil,
		"none, not nil":          {},
		"one, 0":                 {0},
		"one":                    {7},
		"one, as much as may be": {1<<31 - 1},
		"two, 0":                 {0, 0},
		"two, one above 0":       {0, 5},
		"two, the other":         {5, 0},
		"256, 0":                 each[uint32](256, 0),
		"256, one above 0":       then(each[uint32](255, 0), []uint32{1}),
		"256, the first above 0": then([]uint32{1}, each[uint32](255, 0)),
		"257":                    each[uint32](257, 1),
		"257, two above 0":       then([]uint32{1, 1}, each[uint32](255, 0)),
		"257, one above 0":       then([]uint32{1}, each[uint32](256, 0)),
		"257, 0":                 each[uint32](257, 0),
		"1000":                   each[uint32](1000, 3),
		"2^31":                   {1 << 30, 1 << 30},
		"2^31 by one and less":   {1<<31 - 1, 1},
		"2^31 by many":           each[uint32](256, 1<<23),
		"2^31 and 1":             {1 << 31, 1},
		"2^32":                   {1 << 31, 1 << 31},
		"2^32 and 2":             {1 << 31, 1 << 31, 1, 1},
		"2^32 and 1":             {math.MaxUint32, 2},
		"2^33 less 2":            {math.MaxUint32, math.MaxUint32},
		"2^40 less 2^8":          each[uint32](256, math.MaxUint32),
		"powers to 2^31":         powers(32),
	} {
		t.Run(name, func(t *testing.T) { wantOfErr(t, often) })
	}
}

func TestOfAsMuchAsMayBe(t *testing.T) {
	wantOf(t, []uint32{1<<31 - 2, 1})
	wantOf(t, []uint32{1, 1<<31 - 2})
	wantOf(t, []uint32{1 << 30, 1<<30 - 1})
	wantOf(t, []uint32{1 << 29, 1 << 29, 1 << 29, 1<<29 - 1})
	wantOf(t, powers(31)) // 2^31 less 1
	wantOf(t, then(each[uint32](255, 1<<23), []uint32{1<<23 - 1}))
	wantOf(t, then([]uint32{1<<31 - 256}, each[uint32](255, 1)))
}

func TestOfNumbersThatGrow(t *testing.T) {
	for n := 2; n <= 31; n++ {
		often := powers(n)
		wantFewest(t, often)
		slices.Reverse(often)
		wantFewest(t, often)
		wantFewest(t, then([]uint32{0, 0}, often, []uint32{0}))
	}
	for n := 2; n <= 44; n++ {
		often := fibonacci(n)
		wantOf(t, often)
		slices.Reverse(often)
		l := wantOf(t, often)
		if depth, _ := mayBe(l); n >= 12 && depth != 11 {
			t.Errorf("%d numbers of Fibonacci: %d, depth %d", n, l, depth)
		}
	}
	// As many symbols as there may be, with a code too long for them at first.
	wantOf(t, then(fibonacci(40), each[uint32](216, 1)))
	wantOf(t, then(powers(30), each[uint32](226, 1)))
	wantOf(t, then(each[uint32](226, 1), powers(30)))
}

// wantFewest fails, unless Of's weights tell all symbols in as few bits as codes of 11 bits can.
func wantFewest(t *testing.T, often []uint32) {
	t.Helper()
	l := wantOf(t, often)
	want, depth := huffman(often)
	if depth > 11 {
		want = fewest(often)
	}
	if got := cost(often, l); got != want {
		t.Errorf("Of(%d): %d, %d bits, want %d", often, l, got, want)
	}
}

func TestOfHasTheFewestBits(t *testing.T) {
	r := rand.New(rand.NewPCG(8, 9))
	for range 300 {
		often := make([]uint32, 13+r.IntN(6))
		for i := range often {
			often[i] = 1 + r.Uint32N(1+uint32(1)<<r.IntN(26))
		}
		wantFewest(t, often)
	}
	for n := 2; n <= 18; n++ {
		wantFewest(t, fibonacci(n))
	}
}

func TestOfManyKinds(t *testing.T) {
	r := rand.New(rand.NewPCG(8, 10))
	for n := 2; n <= 256; n++ {
		for _, most := range []uint32{1, 2, 9, 1000, 1 << 22} {
			for _, noughts := range []int{0, 1, 5, 9} {
				often := make([]uint32, n)
				for i := range often {
					if r.IntN(10) >= noughts {
						often[i] = 1 + r.Uint32N(most)
					}
				}
				often[r.IntN(n-1)]++
				often[n-1]++
				l := wantOf(t, often)
				bits, depth := huffman(often)
				if depth <= 11 && cost(often, l) != bits || depth > 11 && cost(often, l) <= bits {
					t.Errorf("Of(%d): %d, %d bits; Huffman's codes, up to %d, have %d", often, l, cost(often, l), depth, bits)
				}
			}
		}
	}
}

func TestOfNoughts(t *testing.T) {
	for ahead := range 128 {
		for _, c := range []struct {
			often []uint32
			want  []byte
		}{
			{then(each[uint32](ahead, 0), []uint32{4, 2, 2}), then(each[byte](ahead, 0), []byte{2, 1, 1})},
			{then([]uint32{4, 2}, each[uint32](ahead, 0), []uint32{2}), then([]byte{2, 1}, each[byte](ahead, 0), []byte{1})},
			{then([]uint32{4, 2, 2}, each[uint32](ahead, 0)), []byte{2, 1, 1}},
			{then(each[uint32](ahead, 0), []uint32{4}, each[uint32](ahead/2, 0), []uint32{2, 2}, each[uint32](ahead/3, 0)), then(each[byte](ahead, 0), []byte{2}, each[byte](ahead/2, 0), []byte{1, 1})},
		} {
			if l := wantOf(t, c.often); !bytes.Equal(l, c.want) {
				t.Errorf("Of(%d): %d, want %d", c.often, l, c.want)
			}
		}
	}
}

// P8.5

// wantPrefixFree fails, if the code of a symbol is the beginning of another one's.
func wantPrefixFree(t *testing.T, l []byte) {
	t.Helper()
	codes, err := weights.Codes(l)
	if err != api.OK || len(codes) != len(l) {
		t.Fatalf("Codes(%d): %d, %d", l, codes, err)
	}
	var all []string
	for symbol, c := range codes {
		if (l[symbol] > 0) != (c.Bits > 0) || c.Bits > weights.Most || c.Code < 0 || c.Code>>c.Bits != 0 {
			t.Fatalf("Codes(%d): symbol %d: %d", l, symbol, c)
		}
		if c.Bits > 0 {
			all = append(all, spelt(c))
		}
	}
	// In order, what begins with another one stands right behind it.
	slices.Sort(all)
	for i := 1; i < len(all); i++ {
		if strings.HasPrefix(all[i], all[i-1]) {
			t.Errorf("Codes(%d): %s begins with %s", l, all[i], all[i-1])
		}
	}
}

func TestNoCodeIsTheBeginningOfAnotherOne(t *testing.T) {
	for _, l := range edges() {
		wantPrefixFree(t, l)
	}
	r := rand.New(rand.NewPCG(8, 11))
	for range 2000 {
		wantPrefixFree(t, someWhole(r, 2+r.IntN(255)))
	}
	for n := 2; n <= 44; n++ {
		wantPrefixFree(t, wantOf(t, fibonacci(n)))
	}
	lists(6, 4, func(l []byte) {
		if whole, err := weights.Whole(l); err == api.OK {
			wantPrefixFree(t, whole)
		}
	})
}

// wantThereAndBack fails, unless Read reads weights as Write wrote them.
func wantThereAndBack(t *testing.T, l []byte) {
	t.Helper()
	b, err := weights.Write(l)
	if len(l) > 129 {
		if err != api.ErrBig {
			t.Errorf("Write(%d): %d", l, err)
		}
		return
	}
	if err != api.OK {
		t.Fatalf("Write(%d): %d", l, err)
	}
	wantReadWhole(t, b, l)
}

func TestWhatIsWrittenIsRead(t *testing.T) {
	for _, l := range edges() {
		wantThereAndBack(t, l)
	}
	r := rand.New(rand.NewPCG(8, 12))
	for range 2000 {
		wantThereAndBack(t, someWhole(r, 2+r.IntN(128)))
	}
	for n := 2; n <= 44; n++ {
		wantThereAndBack(t, wantOf(t, fibonacci(n)))
	}
	lists(6, 4, func(l []byte) {
		if whole, err := weights.Whole(l); err == api.OK {
			wantThereAndBack(t, whole)
		}
	})
}

func TestMost(t *testing.T) {
	if weights.Most != 11 {
		t.Errorf("Most: %d", weights.Most)
	}
}
