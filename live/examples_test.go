package live_test

import "testing"

func TestExample1(t *testing.T) {
	wantLive(t, "the chapter's graph", example(0, 2, 2), rows(row(0), row(0), row(2), nil, row(2)), rows(row(0, 2), row(0), row(2), nil, row(2)))
}

func TestExample2(t *testing.T) {
	wantLive(t, "a variable that is told", truths(1, block(back(0))), rows(row(0)), rows(nil))
	wantRefused(t, "no block", truths(1))
}
