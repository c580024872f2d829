package window

import "hanaper/api"

const (
	shortest = api.MinMatch
	longest  = api.MaxMatch
	reach    = api.Window // bytes back that a match may begin
	none     = -1         // no place
)

// places of a text, found by the bytes of a shortest match that stand there.
type places struct {
	s     string
	last  map[string]int // the last place of these bytes
	ahead []int          // of each place the one ahead of it with the same bytes, or none
}

func newPlaces(s string) *places {
	return &places{s: s, last: map[string]int{}}
}

// addTo adds all places ahead of end that are not there yet; those nearest the text's end begin no match.
func (p *places) addTo(end int) {
	for at := len(p.ahead); at < end && p.mayMatch(at); at++ {
		p.ahead = append(p.ahead, p.lastOf(at))
		p.last[p.first(at)] = at
	}
}

func (p *places) mayMatch(at int) bool {
	return at <= len(p.s)-shortest
}

// first bytes of a match at a place.
func (p *places) first(at int) string {
	return p.s[at : at+shortest]
}

// lastOf is the last place with the bytes that stand at this one.
func (p *places) lastOf(at int) int {
	if last, is := p.last[p.first(at)]; is {
		return last
	}
	return none
}

// match looks at the nearest place first, so that it stays, if others are no better.
func (p *places) match(at int) (int, int) {
	if !p.mayMatch(at) {
		return 0, 0
	}
	length, back := 0, 0
	for from := p.lastOf(at); from != none && at-from <= reach; from = p.ahead[from] {
		if n := p.run(from, at); n > length {
			length, back = n, at-from
		}
	}
	return length, back
}

// run counts the bytes that are the same from both places on, as the first ones are; it may reach beyond at.
func (p *places) run(from, at int) int {
	n := shortest
	for n < longest && at+n < len(p.s) && p.s[from+n] == p.s[at+n] {
		n++
	}
	return n
}

func (p *places) token(at int) Token {
	if length, back := p.match(at); length > 0 {
		return Token{Len: length, Back: back}
	}
	return Token{C: p.s[at]}
}
