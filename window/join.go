package window

import "hanaper/api"

// joined is what tokens have come to so far.
type joined struct {
	text []byte
	most int
}

// Join makes the text of the tokens, of so many bytes at most.
func Join(l []Token, most int) (string, api.Errno) {
	j := &joined{most: most}
	if e := each(l, j.put); e != api.OK {
		return "", e
	}
	return string(j.text), api.OK
}

// each ends with the first error.
func each(l []Token, do func(Token) api.Errno) api.Errno {
	for _, t := range l {
		if e := do(t); e != api.OK {
			return e
		}
	}
	return api.OK
}

// put asks how much there is behind each token alone: without one there may be no bytes less than none.
func (j *joined) put(t Token) api.Errno {
	step := j.putMatch
	if t.Len == 0 {
		step = j.putByte
	}
	if e := step(t); e != api.OK {
		return e
	}
	if len(j.text) > j.most {
		return api.ErrCap
	}
	return api.OK
}

func (j *joined) putByte(t Token) api.Errno {
	if t.Back != 0 {
		return api.ErrArg
	}
	j.text = append(j.text, t.C)
	return api.OK
}

// putMatch goes byte by byte, as a match may be of bytes that it puts itself.
func (j *joined) putMatch(t Token) api.Errno {
	if t.C != 0 || t.Len < shortest || t.Len > longest || t.Back < 1 || t.Back > reach {
		return api.ErrArg
	}
	if t.Back > len(j.text) {
		return api.ErrMatch
	}
	for range t.Len {
		j.text = append(j.text, j.text[len(j.text)-t.Back])
	}
	return api.OK
}
