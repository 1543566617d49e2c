package store

import "slices"

// table keeps the things of one kind by their ids. These are counted up as
// things are made: an id whose thing has gone is not used again.
type table[T any] struct {
	made int
	rows map[int]*T
}

func emptyTable[T any]() table[T] { return table[T]{rows: map[int]*T{}} }

// next is the id of the thing that will be made next; to ask for it uses none up.
func (t *table[T]) next() int { return t.made + 1 }

func (t *table[T]) add(row T) int {
	t.made++
	t.rows[t.made] = &row
	return t.made
}

// find gives nil, if there is no such id.
func (t *table[T]) find(id int) *T { return t.rows[id] }

func (t *table[T]) drop(id int) { delete(t.rows, id) }

func (t *table[T]) hasRoom(more, most int) bool { return len(t.rows)+more <= most }

func (t *table[T]) ids() []int {
	var ids []int
	for id := range t.rows {
		ids = append(ids, id)
	}
	slices.Sort(ids)
	return ids
}

// list tells all rows by rising id, each as its copy.
func (t *table[T]) list(copied func(T) T) []T {
	var rows []T
	for _, id := range t.ids() {
		rows = append(rows, copied(*t.rows[id]))
	}
	return rows
}

func (t *table[T]) clone(copied func(T) T) table[T] {
	c := table[T]{made: t.made, rows: map[int]*T{}}
	for id, row := range t.rows {
		own := copied(*row)
		c.rows[id] = &own
	}
	return c
}
