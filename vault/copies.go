package vault

import (
	"slices"

	"hanaper/api"
)

// copyState shares no list with s, so that it may be changed in place.
func copyState(s State) State {
	s.Vers = slices.Clone(s.Vers)
	for i, v := range s.Vers {
		s.Vers[i] = copyVersion(v)
	}
	for i, reply := range s.Last {
		s.Last[i] = copyReply(reply)
	}
	return s
}

func copyReply(r api.Reply) api.Reply {
	return api.Reply{E: r.E, Ids: slices.Clone(r.Ids), V: copyVersion(r.V)}
}

func copyVersion(v api.Version) api.Version {
	return api.Version{Id: v.Id, Blocks: slices.Clone(v.Blocks), Names: slices.Clone(v.Names), Sizes: slices.Clone(v.Sizes)}
}
