package batch_test

import (
	"slices"
	"strconv"
	"testing"

	"handbill/api"
	"handbill/batch"
	"handbill/txn"
	"handbill/vers"
)

func TestDo(t *testing.T) {
	for _, c := range []struct {
		had  int
		l    []api.Write
		want api.Errno
	}{
		{0, nil, api.OK}, {0, []api.Write{{Key: "a", Value: "1"}, {Key: "b", Gone: true}, {Key: "a", Gone: true}}, api.OK}, {998, []api.Write{{Key: "a"}, {Key: "b"}}, api.OK}, {999, []api.Write{{Key: "a"}, {Key: "b"}}, api.ErrLimit},
		{999, []api.Write{{Key: "a"}, {Key: "k0"}, {Key: "a", Gone: true}}, api.OK}, {1000, []api.Write{{Key: "k0", Gone: true}, {Key: "k1"}}, api.OK}, {1000, []api.Write{{Key: "a"}}, api.ErrLimit}, {1000, []api.Write{{Key: "k0"}, {Key: "a"}}, api.ErrLimit},
		{0, []api.Write{{Key: "a"}, {}}, api.ErrLong}, {1000, []api.Write{{Key: "k0"}, {}, {Key: "a"}}, api.ErrLong},
	} {
		x := txn.Begin(vers.New[string](), 0)
		for i := range c.had {
			x.Put("k"+strconv.Itoa(i), "old")
		}
		y := txn.Begin(vers.New[string](), 0)
		for _, w := range append(x.Writes(), c.l...) {
			if w.Gone {
				y.Delete(w.Key)
			} else {
				y.Put(w.Key, w.Value)
			}
		}
		want := x.Writes()
		if c.want == api.OK {
			want = y.Writes()
		}
		if e := batch.Do(x, c.l); e != c.want || !slices.Equal(x.Writes(), want) {
			t.Errorf("Do of %v with %d writes: %d, not %d", c.l, c.had, e, c.want)
		}
	}
}
