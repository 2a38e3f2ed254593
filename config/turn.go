package config

import "odometer/api"

// What FNV-1a of 64 bits begins with, and what it multiplies by.
const (
	basis uint64 = 0xCBF29CE484222325
	prime uint64 = 0x100000001B3
)

// Offset is a target's offset; 0, if it has no turns.
func Offset(t api.Target) int64 {
	if !mayTurn(t) {
		return 0
	}
	return int64(number(t.Job+"\x00"+t.Host+"\x00"+t.Path) % uint64(t.Interval))
}

// Due is a target's first turn that is not ahead of a time; 0, if it has no turns.
func Due(t api.Target, now int64) int64 {
	if !mayTurn(t) {
		return 0
	}
	offset := Offset(t)
	return offset + ahead(offset, t.Interval, now)*t.Interval
}

// Turns is how many turns a target has from a time on, ahead of another one.
func Turns(t api.Target, from, to int64) int64 {
	if !mayTurn(t) {
		return 0
	}
	offset := Offset(t)
	return max(0, ahead(offset, t.Interval, to)-ahead(offset, t.Interval, from))
}

// mayTurn: has a target turns?
func mayTurn(t api.Target) bool { return within(t.Interval, 1, api.MaxInterval) }

// ahead is how many turns stand ahead of a time, the first one at the offset.
func ahead(offset, interval, at int64) int64 {
	at = min(max(at, 0), api.MaxTime)
	return (at - offset + interval - 1) / interval // the offset is below the interval: this is of nothing below 0
}

// number is FNV-1a of 64 bits.
func number(s string) uint64 {
	n := basis
	for i := range len(s) {
		n = (n ^ uint64(s[i])) * prime
	}
	return n
}
