package walk

import "testing"

// thing is a name, and things within it.
type thing struct {
	name string
	kids []thing
}

func kids(t thing) []thing { return t.kids }

func some() thing {
	leaf := func(name string) thing { return thing{name: name} }
	return thing{"a", []thing{{"b", []thing{leaf("c"), leaf("d")}}, leaf("e"), {"f", []thing{{"g", []thing{leaf("h")}}}}}}
}

// Each thing is told once, ahead of its kids, or behind them; the loop may be left at each.
func TestOrder(t *testing.T) {
	down, up := "abcdefgh", "cdbehgfa"
	for most := range len(down) + 1 {
		var l, m string
		for x := range Down(some(), kids) {
			if l += x.name; len(l) >= most {
				break
			}
		}
		for x := range Up(some(), kids) {
			if m += x.name; len(m) >= most {
				break
			}
		}
		if n := max(1, most); l != down[:n] || m != up[:n] {
			t.Errorf("%d: %s, %s", most, l, m)
		}
	}
}

// What is very deep is gone through, too.
func TestDeep(t *testing.T) {
	deep := thing{name: "a"}
	for range 1 << 20 {
		deep = thing{"b", []thing{deep}}
	}
	many := 0
	for range Down(deep, kids) {
		many++
	}
	for x := range Up(deep, kids) {
		if many++; many == 1<<20+2 && x.name != "a" {
			t.Error(x.name)
		}
	}
	if many != 2<<20+2 {
		t.Error(many)
	}
}
