// Package walk goes through things that have kids of their own kind, as trees and queries do. It keeps the way to a thing by itself, as such things may be deeper than calls can be.
package walk

import "iter"

// Down goes through a thing and all within it, each ahead of its kids.
func Down[T any](root T, kids func(T) []T) iter.Seq[T] {
	return func(yield func(T) bool) {
		left := [][]T{{root}}
		for len(left) > 0 {
			last := len(left) - 1
			if len(left[last]) == 0 {
				left = left[:last]
				continue
			}
			thing := left[last][0]
			left[last] = left[last][1:]
			if !yield(thing) {
				return
			}
			left = append(left, kids(thing))
		}
	}
}

// Up goes through a thing and all within it, each behind its kids.
func Up[T any](root T, kids func(T) []T) iter.Seq[T] {
	return func(yield func(T) bool) {
		way := []step[T]{{root, kids(root)}}
		for len(way) > 0 {
			at := &way[len(way)-1]
			if len(at.left) > 0 {
				kid := at.left[0]
				at.left = at.left[1:]
				way = append(way, step[T]{kid, kids(kid)})
				continue
			}
			thing := at.thing
			way = way[:len(way)-1]
			if !yield(thing) {
				return
			}
		}
	}
}

// step is a thing on the way, and those of its kids that are left.
type step[T any] struct {
	thing T
	left  []T
}
