package schema

import "fascicle/api"

// Kids answers the table's children, in order.
func Kids(s api.Schema, table int) []int {
	if !has(s, table) {
		return nil
	}
	var kids []int
	for i, t := range s.Tables {
		if t.Parent == table {
			kids = append(kids, i)
		}
	}
	return kids
}

// Depth answers the table's depth: 1 of a root, its parent's and 1 of each other one.
func Depth(s api.Schema, table int) int {
	if !has(s, table) {
		return 0
	}
	_, depth := up(s.Tables, table)
	return depth
}

// Root answers the root that one comes to, going from the table to its parent, again and again.
func Root(s api.Schema, table int) int {
	if !has(s, table) {
		return none
	}
	root, _ := up(s.Tables, table)
	return root
}

// up goes from a table to its parent, again and again: it answers the root, and how many tables stand on that way.
func up(tables []api.Table, at int) (root, depth int) {
	depth = 1
	for tables[at].Parent != none {
		at = tables[at].Parent
		depth++
	}
	return at, depth
}
