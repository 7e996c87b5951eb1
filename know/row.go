package know

import (
	"slices"

	"mudlark/api"
)

// row is texts, rising, each once.
func row(texts ...string) []string {
	return slices.Compact(slices.Sorted(slices.Values(texts)))
}

// cross is each text of a row with each of another one behind it.
func cross(a, b []string) []string {
	var out []string
	for _, ahead := range a {
		for _, behind := range b {
			out = append(out, ahead+behind)
		}
	}
	return row(out...)
}

// short is a row of texts that are cut to two bytes, or, if these are too many, to one; nothing is known of a row that is still too great, or has the empty text.
func short(cut func(text string, most int) string, texts ...string) []string {
	for _, most := range []int{2, 1} {
		var l []string
		for _, text := range texts {
			l = append(l, cut(text, most))
		}
		if l = row(l...); len(l) <= api.MaxFix && !slices.Contains(l, "") {
			return l
		}
	}
	return row("")
}

// first is a text's first bytes, at most most.
func first(text string, most int) string {
	return text[:min(most, len(text))]
}

// last is a text's last bytes, at most most.
func last(text string, most int) string {
	return text[max(0, len(text)-most):]
}
