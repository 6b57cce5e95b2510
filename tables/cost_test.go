package tables

import (
	"math"
	"testing"

	"lighterman/api"
	"lighterman/codes"
	"lighterman/fse"
	"lighterman/normal"
)

// Ways may be near one another in what Write chooses among, so what they cost is asked here.

// tableOf is the table of counts of Log 5.
func tableOf(t *testing.T, parts ...int) fse.Table {
	t.Helper()
	table, err := fse.Build(normal.Counts{Log: 5, Part: parts})
	if err != api.OK {
		t.Fatal(parts, err)
	}
	return table
}

func TestCost(t *testing.T) {
	halves := tableOf(t, 16, 16)       // a bit each
	uneven := tableOf(t, 24, 0, 0, 8)  // 8 of the first one's 24 states have a bit, the last one's have 2 each
	lonely := tableOf(t, 0, 31, 1)     // one of the first one's 31 states has a bit, the last one has 5
	given, _ := Default(codes.Offsets) // 5 bits each, but 4 of codes 6 to 8
	for _, c := range []struct {
		w     way
		often [mostCodes]uint32
		want  int
	}{
		{way{table: halves}, [mostCodes]uint32{10, 20}, 5 + 30},
		{way{table: halves, told: []byte{1, 2}}, [mostCodes]uint32{10, 20}, 16 + 5 + 30},
		{way{table: halves, told: []byte{1, 2, 3}}, [mostCodes]uint32{0, 20}, 24 + 5 + 20},
		{way{table: halves, told: []byte{1}}, [mostCodes]uint32{}, 8 + 5},
		{way{table: uneven}, [mostCodes]uint32{0: 300, 3: 100}, 5 + 300*8/24 + 200},
		{way{table: lonely}, [mostCodes]uint32{1: 3100, 2: 1}, 5 + 100 + 5},
		{way{table: given}, [mostCodes]uint32{0: 1, 6: 2, 28: 1}, 5 + 5 + 8 + 5},
		{way{table: fse.One(7), told: []byte{7}}, [mostCodes]uint32{7: 1000}, 8},
	} {
		if got := c.w.cost(c.often); got != c.want {
			t.Errorf("%d told, %d states, %d: %d bits; want %d", len(c.w.told), len(c.w.table.Entries), c.often[:8], got, c.want)
		}
	}
}

// A table that lacks a code can't be taken, whatever else it has.
func TestCostOfCodesThatLack(t *testing.T) {
	given, _ := Default(codes.Offsets)
	for _, w := range []way{{}, {mode: Told, told: []byte{1}}, {table: tableOf(t, 16, 16)}, {table: given}, {table: fse.One(7)}} {
		for _, often := range [][mostCodes]uint32{{0: 1, 1: 1, 30: 1}, {29: 1}, {31: 5}, {52: 1}} {
			if got := w.cost(often); got != math.MaxInt {
				t.Errorf("%d states, codes that lack: %d bits", len(w.table.Entries), got)
			}
		}
	}
}
