package vault

import (
	"slices"

	"hanaper/api"
	"hanaper/header"
)

// The kinds of ops.
const (
	putKind    = 1
	deleteKind = 2
	pruneKind  = 3
	listKind   = 4
	getKind    = 5
)

// deed is what an op does with a state that is shared with nobody, and the reply to it.
type deed func(*State, api.Op) api.Reply

// deeds stand at their kinds. A function makes them, as the language allows no table of functions at package level.
func deeds() [getKind + 1]deed {
	return [...]deed{putKind: put, deleteKind: remove, pruneKind: prune, listKind: list, getKind: get}
}

func (s *State) do(o api.Op) api.Reply {
	if o.Kind < putKind || o.Kind > getKind {
		return fault(api.ErrKind)
	}
	return deeds()[o.Kind](s, o)
}

func put(s *State, o api.Op) api.Reply {
	if !header.May(o.V) {
		return fault(api.ErrArg)
	}
	if _, is := s.find(o.V.Id); is {
		return fault(api.ErrTwice)
	}
	if len(s.Vers) >= api.MaxVers {
		return fault(api.ErrFull)
	}
	s.Vers = append(s.Vers, copyVersion(o.V))
	return api.Reply{}
}

func remove(s *State, o api.Op) api.Reply {
	i, is := s.find(o.Id)
	if !is {
		return fault(api.ErrNone)
	}
	s.Vers = slices.Delete(s.Vers, i, i+1)
	return api.Reply{}
}

// prune keeps the last versions, as many as the op's Id tells.
func prune(s *State, o api.Op) api.Reply {
	// Held against one another as 64 bits: not each Id is an int everywhere.
	kept := int(min(uint64(o.Id), uint64(len(s.Vers))))
	gone := len(s.Vers) - kept
	reply := api.Reply{Ids: ids(s.Vers[:gone])}
	s.Vers = slices.Delete(s.Vers, 0, gone)
	return reply
}

func list(s *State, _ api.Op) api.Reply {
	return api.Reply{Ids: ids(s.Vers)}
}

func get(s *State, o api.Op) api.Reply {
	i, is := s.find(o.Id)
	if !is {
		return fault(api.ErrNone)
	}
	return api.Reply{V: copyVersion(s.Vers[i])}
}

// find is the place of the version of an Id, and whether there is one.
func (s *State) find(id uint32) (int, bool) {
	i := slices.IndexFunc(s.Vers, func(v api.Version) bool { return v.Id == id })
	return i, i >= 0
}

func ids(l []api.Version) []uint32 {
	all := make([]uint32, len(l))
	for i, v := range l {
		all[i] = v.Id
	}
	return all
}

func fault(e api.Errno) api.Reply {
	return api.Reply{E: e}
}
