package chance

import (
	"math/rand"
	"testing"

	"mudlark/api"
	"mudlark/syntax"
	"mudlark/tree"
)

// What is drawn is what it says, and hangs on nothing but the numbers that are told.
func TestDrawn(t *testing.T) {
	longest, deepest, trees := 0, 0, 0
	for seed := range int64(5000) {
		draw, again := Draw(rand.New(rand.NewSource(seed)).Intn), Draw(rand.New(rand.NewSource(seed)).Intn)
		text, n, regex := draw.Text(20), draw.Tree(4), draw.Regex(4)
		if string(again.Text(20)) != string(text) || tree.Size(again.Tree(4)) != tree.Size(n) || again.Regex(4) != regex {
			t.Fatalf("%d: another one", seed)
		}
		if longest = max(longest, len(text)); len(text) > 20 {
			t.Fatalf("%q", text)
		}
		if deepest = max(deepest, tree.Deep(n)); !tree.Right(n) || tree.Deep(n) > 5 {
			t.Fatalf("%v", n)
		}
		switch _, _, at, e := syntax.Parse(regex, api.Flags{}); e {
		case api.OK:
			trees++
		case api.ErrLong, api.ErrSize, api.ErrDeep:
		default:
			t.Fatalf("%s: %d, %d", regex, at, e)
		}
	}
	if longest < 20 || deepest < 5 || trees < 4900 {
		t.Errorf("%d, %d, %d", longest, deepest, trees)
	}
}
