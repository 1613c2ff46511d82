package cache

// Cache is blocks that are kept.
type Cache struct {
	most           int
	kept           map[int64]*block // by number
	newest, oldest *block           // the one that was used last, and the one that was used longest ago
	hits, misses   int
}

// block is a kept block. It knows those that were used right behind it and right ahead of it, so that a use takes the same time however many are kept.
type block struct {
	number       int64
	data         []byte
	newer, older *block
}

// hit uses block k, if it is kept; else it answers nil.
func (c *Cache) hit(k int64) *block {
	b := c.kept[k]
	if b != nil {
		c.hits++
		c.drop(b)
		c.put(b)
	}
	return b
}

// keep uses b, which was read just now. A file below that read it through the cache meanwhile has put it there already: each is kept once.
func (c *Cache) keep(b *block) {
	if old := c.kept[b.number]; old != nil {
		c.drop(old)
	}
	c.put(b)
	if len(c.kept) > c.most {
		c.drop(c.oldest)
	}
}

// put keeps b as the one that was used last.
func (c *Cache) put(b *block) {
	b.newer, b.older = nil, c.newest
	if c.newest == nil {
		c.oldest = b
	} else {
		c.newest.newer = b
	}
	c.newest = b
	c.kept[b.number] = b
}

// drop keeps b no more. What b knows of the others stays, for those who are going along them.
func (c *Cache) drop(b *block) {
	if b.newer == nil {
		c.newest = b.older
	} else {
		b.newer.older = b.older
	}
	if b.older == nil {
		c.oldest = b.newer
	} else {
		b.older.newer = b.newer
	}
	delete(c.kept, b.number)
}

// forget drops the blocks from one number up to another, both too. It goes along the kept ones, since the numbers between may be many more.
func (c *Cache) forget(from, to int64) {
	for b := c.newest; b != nil; b = b.older {
		if from <= b.number && b.number <= to {
			c.drop(b)
		}
	}
}
