package pool

import (
	"strings"

	"revert/api"
	"revert/dedup"
	"revert/space"
	"revert/value"
)

// Plan is the table of a pool as it would be. Only one that Begin returned can be used.
type Plan struct {
	self  *Plan // tells a plan of Begin from a zero value, and from a copy of the struct, which would change the same table
	pool  *Pool
	table *dedup.Table // nil, if the plan is broken or done
	left  *space.Space // a block that is released is not free here: the pool's chunk in it may be needed after a crash
}

// made reports whether Begin returned q.
func (q *Plan) made() bool { return q != nil && q.self == q }

// open reports whether the plan is neither broken nor done.
func (q *Plan) open() bool { return q.made() && q.table != nil }

// end makes the plan unusable: nothing needs what was planned any more.
func (q *Plan) end() { q.pool, q.table, q.left = nil, nil, nil }

// step performs a step of the plan, which is broken if that returns an error.
func (q *Plan) step(do func() api.Errno) (e api.Errno) {
	if !q.made() {
		return api.ErrNil
	}
	if !q.open() {
		return api.ErrState
	}
	defer func() {
		if e != api.OK {
			q.end()
		}
	}()
	return do()
}

// Put holds the chunks of data, of which new ones are added, and returns their ids.
func (q *Plan) Put(data string) ([]uint32, api.Errno) {
	var ids []uint32
	e := q.step(func() api.Errno {
		return each(value.Split(data), func(s string) api.Errno {
			id, e := q.put(s)
			ids = append(ids, id)
			return e
		})
	})
	if e != api.OK {
		return nil, e
	}
	return ids, api.OK
}

// put holds the chunk with these bytes, or adds it, and returns its id.
func (q *Plan) put(s string) (uint32, api.Errno) {
	if id, is := q.table.Find(s); is {
		return id, q.table.Hold(id)
	}
	at, e := q.left.Take()
	if e != api.OK {
		return 0, e
	}
	return q.table.Add(strings.Clone(s), at) // a piece of the whole string would keep all of that in memory
}

// Hold adds a reference to each of these chunks.
func (q *Plan) Hold(ids []uint32) api.Errno {
	return q.step(func() api.Errno { return each(ids, q.table.Hold) })
}

// Release removes a reference to each of these chunks, and with the last one the chunk.
func (q *Plan) Release(ids []uint32) api.Errno {
	return q.step(func() api.Errno { return each(ids, q.release) })
}

// release removes a reference to a chunk.
func (q *Plan) release(id uint32) api.Errno {
	_, e := q.table.Release(id)
	return e
}

// Chunks returns what the plan would change, ordered by ids; chunks that it removes have only their ids.
func (q *Plan) Chunks() []Chunk {
	if !q.open() {
		return nil
	}
	var l []Chunk
	for _, id := range union(q.pool.table, q.table) {
		if c := look(q.table, id); c != look(q.pool.table, id) {
			l = append(l, c.Chunk)
		}
	}
	return l
}

// Next returns the id of the next chunk.
func (q *Plan) Next() uint32 {
	if !q.open() {
		return 0
	}
	return q.table.Next()
}

// Write writes the bytes of the chunks that the pool does not have to their blocks, and flushes the line.
func (q *Plan) Write() api.Errno {
	return q.step(func() api.Errno {
		for id := range q.table.All() {
			if e := q.write(look(q.table, id)); e != api.OK {
				return e
			}
		}
		return q.pool.l.Flush()
	})
}

// write writes the bytes of a chunk to its block, unless the pool has it.
func (q *Plan) write(c chunk) api.Errno {
	has := look(q.pool.table, c.ID)
	if has.data == c.data && has.Block == c.Block { // the id alone may be another chunk's by now, of a plan that was begun beside this one
		return api.OK
	}
	return q.pool.l.Write(c.Block, c.data)
}

// Done gives the table of the plan to the pool.
func (q *Plan) Done() api.Errno {
	return q.step(func() api.Errno {
		q.pool.become(q.table)
		q.end()
		return api.OK
	})
}
