package seal

import (
	"hanaper/api"
	"hanaper/cipher"
	"hanaper/digest"
)

// parts of a sealed text, in their order.
type parts struct {
	nonce cipher.Block
	made  string // unreadable
	seal  api.Hash
}

// takenApart tells the parts of s, and whether it has the bytes that they need.
func takenApart(s string) (parts, bool) {
	var p parts
	// Both lengths are asked for at once: the nonce and the seal of a short text may not share bytes.
	if len(s) < len(p.nonce)+len(p.seal) {
		return parts{}, false
	}
	end := len(s) - len(p.seal)
	copy(p.nonce[:], s)
	p.made = s[len(p.nonce):end]
	copy(p.seal[:], s[end:])
	return p, true
}

// sealBy is the seal that p should have.
func (p parts) sealBy(key api.Hash) api.Hash {
	return digest.Mac(string(key[:]), p.ahead())
}

// joined is the sealed text.
func (p parts) joined() string {
	return p.ahead() + string(p.seal[:])
}

// ahead is what stands ahead of the seal.
func (p parts) ahead() string {
	return string(p.nonce[:]) + p.made
}
