package lzma2

import (
	"baler/api"
	"baler/ledger"
	"baler/lzma"
	"baler/window"
)

// decoder reads chunks, one behind the other.
type decoder struct {
	window  *window.Window
	state   *lzma.State
	told    []byte
	since   int  // how many bytes were told since the dictionary was last thrown away
	begun   bool // if a chunk was there
	settled bool // if there were settings, and no chunk of control 1 behind them
}

func newDecoder(size int) (*decoder, api.Errno) {
	w, e := window.New(size, ledger.New(size))
	if e != api.OK {
		return nil, e
	}
	return &decoder{window: w, state: lzma.New()}, api.OK
}

// read reads chunks up to the end, or to the first one that is wrong, and tells how many bytes they have.
func (d *decoder) read(b []byte) (used int, e api.Errno) {
reading:
	for c := range chunks(b) {
		if e = d.judge(c); e != api.OK {
			break
		}
		used += c.size()
		d.begin(c)
		switch {
		case c.ends:
			break reading
		case c.packed:
			e = d.unpack(c)
		default:
			d.window.Put(c.bytes)
			e = d.keep(c.bytes)
		}
		if e != api.OK {
			break
		}
	}
	return used, e
}

// judge tells what is wrong with a chunk as far as that can be seen ahead of its settings and its bytes.
func (d *decoder) judge(c chunk) api.Errno {
	switch {
	case !c.begun:
		return api.ErrTruncated
	case !c.known:
		return api.ErrMalformed
	case !c.headed:
		return api.ErrTruncated
	case !d.begun && !c.clears && !c.ends:
		return api.ErrMalformed
	case c.packed && !c.settings && !d.settled:
		return api.ErrMalformed
	case !c.whole:
		return api.ErrTruncated
	}
	return api.OK
}

// begin throws the dictionary away, if the chunk asks for that, and keeps what the chunks behind it lean on.
func (d *decoder) begin(c chunk) {
	d.begun = true
	if c.clears {
		d.window.Clear()
		d.since, d.settled = 0, false
	}
	if c.settings {
		d.settled = true
	}
}

// unpack tells what an LZMA chunk does.
func (d *decoder) unpack(c chunk) api.Errno {
	switch {
	case c.settings:
		if e := d.state.Props(c.props); e != api.OK {
			return e
		}
	case c.resets:
		d.state.Reset()
	}
	told, e := d.state.Chunk(d.window, d.since, c.bytes, c.told)
	if e != api.OK {
		return e
	}
	return d.keep(told)
}

// keep puts what a chunk told behind all that was told.
func (d *decoder) keep(told []byte) api.Errno {
	if len(told) > api.MaxContent-len(d.told) {
		return api.ErrLong
	}
	d.told = append(d.told, told...)
	d.since += len(told)
	return api.OK
}
