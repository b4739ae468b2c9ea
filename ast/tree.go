package ast

import (
	"slices"

	"schemalens/api"
)

// A node is a node of a tree without fillers, with the places where it begins and ends.
type node struct {
	kind    int
	text    string
	at, end int
	parts   []node
}

// read returns the node of a tree that begins at an offset, and the offset behind the tree.
func read(n api.Node, offset int) (node, int) {
	next := offset + len(n.Text)
	r := node{kind: n.Kind, text: n.Text, at: offset, end: next}
	for _, k := range n.Kids {
		var part node
		part, next = read(k, next)
		if !isFiller(k.Kind) {
			r.add(part)
		}
	}
	return r, next
}

func isFiller(kind int) bool {
	return kind == api.Space || kind == api.Comment || kind == api.Bad
}

// add adds a part, within which an inner node begins and ends if the part has tokens.
func (n *node) add(part node) {
	n.parts = append(n.parts, part)
	if part.at == part.end {
		return
	}
	if n.at == n.end {
		n.at = part.at
	}
	n.end = part.end
}

// partsOf returns the parts of these kinds in order.
func (n node) partsOf(kinds ...int) []node {
	var l []node
	for _, p := range n.parts {
		if slices.Contains(kinds, p.kind) {
			l = append(l, p)
		}
	}
	return l
}

// names returns the leaves that are the names of a node.
func (n node) names() []node {
	return n.partsOf(api.Lower, api.Upper)
}

// name returns the name with an index, or nothing if there are less.
func (n node) name(i int) string {
	l := n.names()
	if i >= len(l) {
		return ""
	}
	return l[i].text
}

// has reports whether a part is a leaf with this text.
func (n node) has(text string) bool {
	return slices.ContainsFunc(n.parts, func(p node) bool { return p.text == text })
}

func (n node) hasError() bool {
	return len(n.partsOf(api.NError)) > 0
}

func (n node) last() node {
	return n.parts[len(n.parts)-1]
}

// collect returns what f makes of the parts of these kinds, in order.
func collect[T any](n node, f func(part node) T, kinds ...int) []T {
	var l []T
	for _, p := range n.partsOf(kinds...) {
		l = append(l, f(p))
	}
	return l
}
