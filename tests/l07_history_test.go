package tests

import (
	"math"
	"testing"

	"loop.example/g00771/impl"
)

func TestCommitText(t *testing.T) {
	texts := []string{
		"1 w0 p0 t0 got put 0=5", "2 w1 p0 t1 got 5 put", "12 w3 p11 t10 got put", "7 w2 p1 t0 got 5 -6 0 put 0=-1000000 3=0 7=1000000", "0 w0 p0 t0 got put",
		"-1 w-2 p-3 t-4 got -5 put -6=-7", "1 w0 p0 t0 got 1 2 3 4 5 6 put 0=1 0=1",
	}
	for _, text := range texts {
		if got := impl.CommitText(commit(text)); got != text {
			t.Errorf("CommitText of %q is %q", text, got)
		}
	}
	cases := []struct {
		c    impl.Commit
		text string
	}{
		{impl.Commit{}, "0 w0 p0 t0 got put"},
		{impl.Commit{Worker: 1, At: 2, Id: 3, Tries: 4, Got: []int{5, 6}, Puts: []impl.Put{{Key: 7, Value: 8}, {Key: 9, Value: -10}}}, "3 w1 p2 t4 got 5 6 put 7=8 9=-10"},
		{impl.Commit{Worker: math.MaxInt, At: math.MinInt, Got: []int{math.MinInt}}, "0 w9223372036854775807 p-9223372036854775808 t0 got -9223372036854775808 put"},
	}
	for _, c := range cases {
		if got := impl.CommitText(c.c); got != c.text {
			t.Errorf("CommitText(%v) = %q", c.c, got)
		}
	}
}
