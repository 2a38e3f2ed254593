package body

import "odometer/api"

// state takes a byte that is not the body's, and hands on what takes the next one; nil: nothing does.
type state func(d *Decoder, c byte) state

// maxLine is how many bytes a size line has at most, with its end.
const maxLine = 256

// sizeLine takes a byte of a size line.
func sizeLine(d *Decoder, c byte) state {
	d.line = append(d.line, c)
	if c != '\n' && len(d.line) < maxLine {
		return sizeLine
	}
	n, is := size(d.ended())
	switch {
	case !is:
		return d.fail(api.ErrChunk)
	case n > d.room:
		return d.fail(api.ErrLarge)
	case n == 0:
		return trailer
	}
	d.left, d.room = n, d.room-n
	return must('\r', must('\n', sizeLine))
}

// trailer takes a byte of what stands behind the last size line.
func trailer(d *Decoder, c byte) state {
	d.line = append(d.line, c)
	d.trail++
	switch {
	case d.trail > api.MaxHead:
		return d.fail(api.ErrChunk)
	case c != '\n':
		return trailer
	}
	line := d.ended()
	switch {
	case line == lineEnd:
		return nil
	case isTrailer(line):
		return trailer
	}
	return d.fail(api.ErrChunk)
}

// must is a state in which this byte alone may come.
func must(want byte, then state) state {
	return func(d *Decoder, c byte) state {
		if c != want {
			return d.fail(api.ErrChunk)
		}
		return then
	}
}

// beyond takes a byte for which there is no room.
func beyond(d *Decoder, _ byte) state { return d.fail(api.ErrLarge) }

// ended is the line that was taken; another one begins.
func (d *Decoder) ended() string {
	line := string(d.line)
	d.line = nil // its bytes may be a copy's, too
	return line
}
