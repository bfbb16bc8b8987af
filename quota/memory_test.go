package quota_test

import (
	"slices"
	"testing"

	"chronicle/api"
	"chronicle/probe"
	"chronicle/quota"
)

// sharings is both ways to share.
func sharings() map[string]sharing {
	return map[string]sharing{"Shares": quota.Shares, "Spread": quota.Spread}
}

// shareLists is lists in no order, for both ways: right ones and wrong ones.
func shareLists() [][]int64 {
	return [][]int64{
		nil, {}, {5}, {8, 2, 8}, {3, 3, 3}, {0, 9, 1, 9, 0, 4}, {0, 0}, {4, -1, 2}, {1, 1 << 41, 3},
		append(alike(32, 9), alike(32, 2)...), alike(65, 1),
	}
}

// 13.6

func TestListsHandedInAreNotChanged(t *testing.T) {
	for what, share := range sharings() {
		for _, l := range shareLists() {
			for _, total := range []int64{-1, 0, 1, 10, 40, 100, maxOffset, maxOffset + 1} {
				list, same := probe.Spare(l, 77)
				shares, _ := share(total, list)
				if !same() {
					t.Errorf("%s(%d, %v): the list is changed, or what is behind it", what, total, l)
				}
				probe.Scribble(append(shares, 99))
				probe.Scribble(shares)
				if !same() {
					t.Errorf("%s(%d, %v): the shares are of the list's memory", what, total, l)
				}
			}
		}
	}
}

func TestListsHandedInAreNotKept(t *testing.T) {
	for what, share := range sharings() {
		for _, l := range shareLists() {
			for _, total := range []int64{0, 1, 10, 40, 100, maxOffset} {
				list, other := slices.Clone(l), slices.Clone(l)
				shares, e := share(total, list)
				kept := slices.Clone(shares)
				probe.Scribble(list)
				if !slices.Equal(shares, kept) {
					t.Errorf("%s(%d, %v): the shares are others behind a change of the list", what, total, l)
				}
				if again, f := share(total, other); f != e || !slices.Equal(again, kept) {
					t.Errorf("%s(%d, %v) = %v, %d behind a change of the list, want %v, %d", what, total, l, again, f, kept, e)
				}
			}
		}
	}
}

func TestSharesAreNewMemory(t *testing.T) {
	for what, share := range sharings() {
		for _, l := range shareLists() {
			for _, total := range []int64{0, 1, 10, 40, 100, maxOffset} {
				first, _ := share(total, l)
				second, e := share(total, l)
				kept := slices.Clone(second)
				probe.Scribble(append(first, 99))
				probe.Scribble(first)
				third, f := share(total, l)
				if !slices.Equal(second, kept) || !slices.Equal(third, kept) || e != f {
					t.Errorf("%s(%d, %v) = %v, and then %v; it was %v", what, total, l, second, third, kept)
				}
			}
		}
	}
}

// R2: what a call answers hangs on its arguments alone, whatever was asked ahead of it.
func TestNothingIsLeftBehind(t *testing.T) {
	b := api.Bucket{Num: 3, Den: 2, Burst: 10, Level: 2, At: 5}
	for range 3 {
		want(t, "Fill", quota.Fill(b, 6), api.Bucket{Num: 3, Den: 2, Burst: 10, Level: 3, Part: 1, At: 6})
		wantTaken(t, b, 6, 3, api.Bucket{Num: 3, Den: 2, Burst: 10, Level: 0, Part: 1, At: 6}, 0)
		wantTaken(t, b, 6, 4, api.Bucket{Num: 3, Den: 2, Burst: 10, Level: 3, Part: 1, At: 6}, 1)
		wantShared(t, "Shares", quota.Shares, 11, []int64{2, 8, 8}, []int64{2, 5, 4})
		wantUnshared(t, "Shares", quota.Shares, 11, []int64{2, -8, 8})
		wantShared(t, "Spread", quota.Spread, 10, []int64{0, 1, 2}, []int64{0, 3, 7})
		wantUnshared(t, "Spread", quota.Spread, 10, nil)
	}
}
