package wire

import (
	"hanaper/api"
	"hanaper/header"
	"hanaper/varint"
)

// reader is of the bytes that are left. The steps that take them panic with the first error.
type reader struct{ left string }

// read is what a step makes of the bytes that s begins by, and the bytes behind; or the error by which it ended.
func read[T any](s string, step func(*reader) T) (made T, rest string, e api.Errno) {
	defer func() {
		if p := recover(); p != nil {
			// Only an error is caught: any other panic would be a fault here, and goes on.
			e = p.(api.Errno)
		}
	}()
	r := reader{s}
	made = step(&r)
	return made, r.left, api.OK
}

// need goes on only if that is so.
func need(is bool, e api.Errno) {
	if !is {
		panic(e)
	}
}

// take is what was read, if there is no error, and goes on behind it.
func take[T any](r *reader, made T, rest string, e api.Errno) T {
	need(e == api.OK, e)
	r.left = rest
	return made
}

func getNumber[N field](r *reader, width int) N {
	n, rest, e := varint.Fixed(r.left, width)
	return N(take(r, n, rest, e))
}

// getMany is a list behind the number of what it has, which is most at most.
func getMany[T any](r *reader, most int, one func(*reader) T) []T {
	n := getNumber[int](r, small)
	need(n <= most, api.ErrSize)
	l := make([]T, n)
	for i := range l {
		l[i] = one(r)
	}
	return l
}

func getId(r *reader) uint32 {
	return getNumber[uint32](r, whole)
}

func getVersion(r *reader) api.Version {
	v, rest, e := header.Read(r.left)
	return take(r, v, rest, e)
}

func getRequest(r *reader) api.Request {
	var made api.Request
	made.Client = getNumber[int](r, small)
	need(isClient(made.Client), api.ErrArg)
	made.Seq = getNumber[uint32](r, whole)
	made.Op.Kind = getNumber[int](r, small)
	need(isOpKind(made.Op.Kind), api.ErrArg)
	made.Op.Id = getId(r)
	if made.Op.Kind == putKind {
		made.Op.V = getVersion(r)
	}
	need(mayRequest(made), api.ErrArg)
	return made
}

// getMsg looks at no more than its reading needs: whether all of it may be is asked when it is read.
func getMsg(r *reader) Msg {
	var made Msg
	made.Kind = getNumber[int](r, small)
	made.From = getNumber[int](r, small)
	made.To = getNumber[int](r, small)
	made.View = getNumber[uint32](r, whole)
	made.Last = getNumber[uint32](r, whole)
	made.N = getNumber[int](r, small)
	made.Commit = getNumber[int](r, small)
	made.Log = getMany(r, api.MaxOps, getRequest)
	made.Client = getNumber[int](r, small)
	made.Seq = getNumber[uint32](r, whole)
	made.Reply = getReply(r)
	made.Hash = getHash(r)
	made.Block = getText(r)
	return made
}

func getReply(r *reader) api.Reply {
	var made api.Reply
	made.E = getNumber[api.Errno](r, short)
	made.Ids = getMany(r, api.MaxVers, getId)
	made.V = getVersion(r)
	return made
}

func getHash(r *reader) api.Hash {
	var h api.Hash
	need(len(r.left) >= len(h), api.ErrShort)
	r.left = r.left[copy(h[:], r.left):]
	return h
}

func getText(r *reader) string {
	s, rest, e := varint.Read(r.left)
	return take(r, s, rest, e)
}
