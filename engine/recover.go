package engine

import (
	"sluiceway/api"
	"sluiceway/cost"
	"sluiceway/dev"
	"sluiceway/image"
	"sluiceway/multi"
	"sluiceway/redo"
	"sluiceway/slot"
	"sluiceway/store"
)

// maxLast is the greatest last transaction that leaves a number for another one.
const maxLast = 1<<48 - 2

// Format formats devices.
func Format(s *dev.Set, streams int) error {
	if streams < 1 || streams > api.MaxStreams || s.Many() <= streams {
		return api.ErrRange
	}
	if _, err := slot.Load(s); err == nil {
		return api.ErrState
	}
	text := store.New().Put()
	d := disks{set: s}
	return d.save(slot.Manifest{Gen: 1, Epoch: 1, Len: len(text), Heads: make([]int, streams)}, text)
}

// Open recovers devices.
func Open(s *dev.Set, c Config, picks []int) (*Engine, error) {
	if s == nil || !cost.Good(c.Policy) || c.Workers < 1 || c.Workers > api.MaxWorkers {
		return nil, api.ErrRange
	}
	if s.Down() {
		return nil, api.ErrDown
	}
	e, err := recovered(s, c, picks)
	if err != nil {
		return nil, api.ErrCorrupt
	}
	if err := e.install(); err != nil {
		return nil, err
	}
	return e, nil
}

// recovered is an engine without a log, as devices tell.
func recovered(s *dev.Set, c Config, picks []int) (*Engine, error) {
	m, err := slot.Load(s)
	if err != nil {
		return nil, err
	}
	base, err := imaged(s, m)
	if err != nil {
		return nil, err
	}
	list, err := multi.Gather(s, m.Epoch, m.Heads, m.Base)
	if err != nil {
		return nil, err
	}
	r, err := redo.New(base, m.Base, list, c.Workers)
	if err != nil {
		return nil, err
	}
	if err := r.Run(picks); err != nil {
		return nil, err
	}
	e := &Engine{disks: disks{Manifest: m, set: s}, policy: c.Policy, store: r.Store(), last: m.Base + len(list)}
	if e.store.Live() > api.MaxKeys {
		return nil, api.ErrCorrupt
	}
	return e, nil
}

// imaged is the store of a manifest's image.
func imaged(s *dev.Set, m slot.Manifest) (*store.Store, error) {
	text, err := image.Load(s, m.Gen, m.Area, m.Len)
	if err != nil {
		return nil, err
	}
	base, err := store.Take(text)
	if err != nil {
		return nil, err
	}
	if base.Last() > m.Base {
		return nil, api.ErrCorrupt
	}
	return base, nil
}

// install makes what was recovered count, and begins a log; where that can't be, the engine is read-only.
func (e *Engine) install() error {
	text := e.store.Put()
	next := e.next(e.last, text, make([]int, len(e.Heads)))
	next.Epoch++
	if e.last > maxLast || !e.holds(next) {
		e.readOnly = true
		return nil
	}
	if err := e.save(next, text); err != nil {
		return err
	}
	log, err := multi.New(e.set, next.Epoch, next.Heads, next.Base)
	if err != nil {
		return err
	}
	e.log = log
	return nil
}

// finish makes the text of a checkpoint that is done count, and lets go what it has.
func (e *Engine) finish() error {
	check := e.check
	e.check = checkpoint{}
	text, err := check.Text()
	if err != nil {
		return err
	}
	// The log can't be cut off ahead of what isn't sure.
	if err := e.dies(e.log.Sync()); err != nil {
		return err
	}
	heads, err := e.log.Heads(check.base)
	if err != nil {
		return err
	}
	next := e.next(check.base, text, heads)
	if !e.holds(next) {
		e.readOnly = true
		return api.ErrFull
	}
	if err := e.dies(e.save(next, text)); err != nil {
		return err
	}
	if err := e.log.Truncate(check.base); err != nil {
		return err
	}
	e.store.Purge()
	return nil
}

// next is the manifest behind the one that counts, of a text in the other area.
func (d *disks) next(base int, text []byte, heads []int) slot.Manifest {
	return slot.Manifest{Gen: d.Gen + 1, Epoch: d.Epoch, Base: base, Area: 1 - d.Area, Len: len(text), Heads: heads}
}

// holds tells whether a manifest can be, and its image has room.
func (d *disks) holds(m slot.Manifest) bool {
	return slot.Good(m) && image.Fits(d.set, m.Len)
}

// save saves an image, and only then the manifest that makes it count.
func (d *disks) save(m slot.Manifest, text []byte) error {
	if err := image.Save(d.set, m.Gen, m.Area, text); err != nil {
		return err
	}
	if err := slot.Save(d.set, m); err != nil {
		return err
	}
	d.Manifest = m
	return nil
}
