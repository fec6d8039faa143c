// Package bulk tells descriptors that are too big from others, without going through all of them.
package bulk

import "dulcimer/api"

// Big tells whether d has a Depth above MaxDepth, or more Nodes than MaxNodes.
func Big(d api.Desc) bool {
	left := api.MaxNodes
	return big(d, 1, &left)
}

// big stops at the first node too many: kids may be shared, so that a tree is far greater than its memory.
func big(d api.Desc, depth int, left *int) bool {
	*left--
	if *left < 0 || depth > api.MaxDepth {
		return true
	}
	for _, k := range d.Kids {
		if big(k, depth+1, left) {
			return true
		}
	}
	return false
}
