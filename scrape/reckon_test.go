package scrape_test

import (
	"fmt"
	"testing"

	"odometer/api"
	"odometer/check"
	"odometer/expo"
	"odometer/label"
	"odometer/reply"
	"odometer/scrape"
)

// plain is a scrape of the target of most of these tests, by the chapter's words: how far it is, the greatest time so far, all that was read, and what it tells.
type plain struct {
	state  api.ScrapeState
	now    int64
	most   int
	text   string
	result api.Result
	reuse  bool
}

func newPlain(most int) plain {
	return plain{state: api.ScrapeDialling, now: begin, most: most}
}

// come is it, once something came; and what Open answers.
func (p plain) come(c comer, now int64) (plain, string) {
	if p.state == api.ScrapeOver {
		return p, ""
	}
	if now > p.now {
		p.now = now
	}
	dials := p.state == api.ScrapeDialling
	switch {
	case p.now >= last:
		return p.over(api.ErrTimeout), ""
	case c.what == "Open" && dials:
		p.state = api.ScrapeReading
		return p, ask
	case c.what == "Refuse" && dials:
		return p.over(api.ErrRefused), ""
	case c.what == "Reset":
		return p.over(api.ErrReset), ""
	case c.what == "End" && dials:
		return p.over(api.ErrEnd), ""
	case c.what == "End", c.what == "Bytes" && !dials:
		p.text += c.b
		return p.answer(c.what == "End"), ""
	}
	return p, ""
}

// answer is it, once more was read, or the connection ended.
func (p plain) answer(ended bool) plain {
	r := reply.New(p.most)
	r.Push([]byte(p.text))
	if ended {
		r.End()
	}
	a, e := r.Reply()
	switch e {
	case api.ErrState:
		return p
	case api.OK:
		var l []api.Sample
		l, e = samplesOf(a.Body)
		p.reuse = e == api.OK && a.Reuse
		return p.over(e, l...)
	}
	return p.over(e)
}

// samplesOf are a body's samples.
func samplesOf(body []byte) ([]api.Sample, api.Errno) {
	families, e := expo.Parse(body, begin)
	if e != api.OK {
		return nil, e
	}
	l, e := check.Samples(families)
	if e != api.OK {
		return nil, e
	}
	wrong := api.OK
	for i, x := range l {
		metric, labels, _ := label.Parse(x.Name)
		name, e := label.Name(metric, append(labels, api.Label{Name: "job", Value: "j"}, api.Label{Name: "instance", Value: "h"})...)
		if e != api.OK {
			return nil, e
		}
		if name == api.Up+both || name == api.Took+both {
			wrong = api.ErrTwice
		}
		l[i].Name = name
	}
	if wrong != api.OK {
		return nil, wrong
	}
	return l, api.OK
}

// over is it, once it is over.
func (p plain) over(e api.Errno, l ...api.Sample) plain {
	p.state = api.ScrapeOver
	up := int64(1)
	if e != api.OK {
		up = 0
	}
	p.result = api.Result{Target: 2, At: begin, Took: p.now - begin, Err: e}
	for _, x := range append(l, own(up, p.now-begin)...) {
		at := 0
		for at < len(p.result.Samples) && p.result.Samples[at].Name < x.Name {
			at++
		}
		rest := append([]api.Sample{x}, p.result.Samples[at:]...)
		p.result.Samples = append(p.result.Samples[:at:at], rest...)
	}
	return p
}

// tell is what it tells.
func (p plain) tell() told {
	return told{p.state, last, fmt.Sprintf("%+v", p.result), p.state == api.ScrapeOver, p.reuse}
}

// pair is a scrape, and what it has to be.
type pair struct {
	s *scrape.Scrape
	p plain
}

// newPair is one that dials.
func newPair(t *testing.T, most int) pair {
	t.Helper()
	s, e := scrape.New(2, target(), most, begin)
	if e != api.OK {
		t.Fatal(e)
	}
	return pair{s, newPlain(most)}
}

// next is a copy, once something came to it.
func (x pair) next(t *testing.T, c comer, now int64) pair {
	t.Helper()
	y := pair{s: x.s.Copy()}
	var want string
	y.p, want = x.p.come(c, now)
	if b := c.come(y.s, now); b != want || tell(y.s) != y.p.tell() {
		t.Fatalf("%v at %d, to %v: %q, %v; want %v", c, now, x.p.tell(), b, tell(y.s), y.p.tell())
	}
	return y
}

// pieces are bytes that answers are made of.
func pieces() []string {
	return []string{"HTTP/1.1 200 OK\r\n", "Content-Length: 4\r\n\r\n", "\r\n", "a 1\n", "up 1\n", byLength("a 1\n"), "x"}
}

// all goes through all short ways from a scrape on.
func all(t *testing.T, x pair, depth int) {
	t.Helper()
	if depth == 0 {
		return
	}
	for _, now := range []int64{begin - 1, 210, last - 1, last} {
		for _, what := range []string{"Open", "Refuse", "Reset", "End", "Tick"} {
			all(t, x.next(t, comer{what, ""}, now), depth-1)
		}
		for _, b := range pieces() {
			all(t, x.next(t, comer{"Bytes", b}, now), depth-1)
		}
	}
	if is := tell(x.s); is != x.p.tell() {
		t.Fatalf("once copies went on: %v, want %v", is, x.p.tell())
	}
}

// P14.1, P14.2, P14.3: all short ways of a scrape that dials, and of some that read
func TestAllShortWays(t *testing.T) {
	x := newPair(t, 10)
	all(t, x, 3)
	x = x.next(t, comer{"Open", ""}, 205)
	all(t, x, 2)
	for _, i := range []int{0, 1, 3} {
		x = x.next(t, comer{"Bytes", pieces()[i]}, 206)
		all(t, x, 2)
	}
	x = newPair(t, 10).next(t, comer{"Open", ""}, 205).next(t, comer{"Bytes", tillEnd("a")}, 206)
	all(t, x, 2)
}

// sequence gives numbers below others, the same in each run.
func sequence() func(below int) int {
	state := uint64(1)
	return func(below int) int {
		state = state*6364136223846793005 + 1442695040888963407
		return int(state >> 33 % uint64(below))
	}
}

// someText is an exposition of any kind.
func someText(next func(below int) int) string {
	lines := []string{
		"a 1\n", "b 2.5 30\n", "c{z=\"y\"} -3\n", "# TYPE d counter\nd 4\n", "e{b=\"\"} 1e3\n", "a_b 5\n", "f{le=\"1\"} 6\n", "g 7\n", "z 8\n",
		"up{k=\"v\"} 1\n", "up 1\n", "a{job=\"\"} 1\n", "# TYPE i counter\ni -1\n", "bad\n", "n NaN\n", "m 1", "\n",
	}
	text := ""
	for range next(6) {
		i := next(10)
		if next(12) == 0 {
			i = next(len(lines))
		}
		text += lines[i]
	}
	return text
}

// someAnswer is an answer of any kind, a few of its bytes perhaps others.
func someAnswer(next func(below int) int) []byte {
	text := someText(next)
	b := []byte([]string{byLength(text), inChunks(text, 1+next(9)), tillEnd(text), "HTTP/1.1 500 No\r\n\r\n"}[next(13)/4])
	for range max(next(6)-3, 0) {
		b[next(len(b))] = byte(next(256))
	}
	return append(b[:len(b)-max(next(9)-7, 0)], "xxx"[:max(next(12)-8, 0)]...)
}

// someWay is a way of a scrape up to its end, or its last time.
func someWay(t *testing.T, x pair, next func(below int) int) pair {
	t.Helper()
	b, now := someAnswer(next), int64(begin)
	for range next(3) {
		x = x.next(t, comer{"Bytes", "let be"}, now)
	}
	x = x.next(t, comer{"Open", ""}, now)
	for len(b) > 0 {
		n := 1 + next(1+next(len(b)))
		now += int64(next(4))
		x = x.next(t, comer{"Bytes", string(b[:n])}, now-int64(next(10)/9*5))
		b = b[n:]
		if next(20) == 0 {
			x = x.next(t, comers()[next(len(comers()))], now)
		}
	}
	if next(4) > 0 {
		x = x.next(t, comer{"End", ""}, now)
	}
	return x.next(t, comer{"Tick", ""}, last+int64(next(3)))
}

// P14.1, P14.2, P14.3, P0.3
func TestSomeWays(t *testing.T) {
	next, came, again := sequence(), make(map[api.Errno]int), 0
	for range 20000 {
		x := someWay(t, newPair(t, 60+next(60)), next)
		r, is := x.s.Result()
		if !is {
			t.Fatalf("%v", x.p.tell())
		}
		came[r.Err]++
		if x.s.Reuse() {
			again++
		}
		if r.Err != api.OK && len(r.Samples) != 2 {
			t.Fatalf("%v", r)
		}
	}
	for _, e := range []api.Errno{api.OK, api.ErrRange, api.ErrLabel, api.ErrStatus, api.ErrHeader, api.ErrChunk, api.ErrLarge, api.ErrCode, api.ErrEnd, api.ErrTimeout, api.ErrReset, api.ErrLine, api.ErrTwice, api.ErrOrder} {
		if came[e] < 20 {
			t.Errorf("%v came %d times alone", e, came[e])
		}
	}
	if came[api.OK] < 3000 || again < 1000 {
		t.Errorf("%d were good, %d of them may be used again", came[api.OK], again)
	}
}

// P0.3: each byte of an answer becomes each other one, goes, or comes twice.
func TestEachByte(t *testing.T) {
	for _, whole := range []string{byLength("# TYPE a counter\na 1 7\nb{c=\"d\"} 2\n"), inChunks("a{b=\"c\"} 1\n", 4)} {
		begun := newPair(t, 40).next(t, comer{"Open", ""}, 201)
		try := func(text string) {
			x := begun.next(t, comer{"Bytes", text}, 210)
			x.next(t, comer{"End", ""}, 211)
			x = begun.next(t, comer{"Bytes", text[:len(text)/2]}, 210)
			x.next(t, comer{"Bytes", text[len(text)/2:]}, 211)
		}
		for i := range whole {
			for c := range 256 {
				try(whole[:i] + string([]byte{byte(c)}) + whole[i+1:])
			}
			try(whole[:i] + whole[i+1:])
			try(whole[:i] + whole[i:i+1] + whole[i:])
			try(whole[:i])
			try(whole[i:])
		}
	}
}
