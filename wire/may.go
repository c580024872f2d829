package wire

import (
	"hanaper/api"
	"hanaper/header"
)

const (
	firstClient = 10   // the end that the client 0 is
	putKind     = 1    // the kind of an op that has a version; kinds are counted from it on
	lastKind    = 5    // the last one of an op's kinds
	mostError   = 1000 // the greatest number of a reply's error
	mostBlock   = 1000 // bytes of a block
)

func isWithin[N ~int](n, least, most N) bool {
	return least <= n && n <= most
}

func isClient(n int) bool {
	return isWithin(n, 0, api.Clients-1)
}

func isEnd(n int) bool {
	return isWithin(n, 0, api.Nodes-1) || isWithin(n, firstClient, firstClient+api.Clients-1)
}

func isOpKind(n int) bool {
	return isWithin(n, putKind, lastKind)
}

func mayLog(l []api.Request) bool {
	if len(l) > api.MaxOps {
		return false
	}
	for _, r := range l {
		if !mayRequest(r) {
			return false
		}
	}
	return true
}

func mayRequest(r api.Request) bool {
	return isClient(r.Client) && isOpKind(r.Op.Kind) && mayOp(r.Op)
}

// mayOp tells whether o has nothing but what an op of its kind tells.
func mayOp(o api.Op) bool {
	if o.Kind == putKind {
		return o.Id == 0 && header.May(o.V)
	}
	return header.Same(o.V, api.Version{})
}

func mayReply(r api.Reply) bool {
	return isWithin(r.E, api.OK, mostError) && len(r.Ids) <= api.MaxVers && header.May(r.V)
}

func sameRequest(a, b api.Request) bool {
	return a.Client == b.Client && a.Seq == b.Seq && a.Op.Kind == b.Op.Kind && a.Op.Id == b.Op.Id && header.Same(a.Op.V, b.Op.V)
}
