package server

import (
	"slices"

	"handbill/api"
	"handbill/delta"
	"handbill/keys"
	"handbill/list"
	"handbill/marks"
	"handbill/proto"
	"handbill/subs"
)

// Handle answers a request.
func (s *Server) Handle(b []byte) []byte {
	r, e := proto.Parse(b)
	if e != api.OK {
		return proto.Fail(e)
	}
	switch r.Op {
	case "begin":
		return s.begin(r.User)
	case "sync":
		return s.sync(r)
	}
	x, ok := s.open.Get(r.Tx)
	if !ok {
		return proto.Fail(api.ErrTx)
	}
	switch r.Op {
	case "commit":
		return s.commit(r.Tx, x)
	case "abort":
		s.open.Delete(r.Tx)
		return proto.Done()
	case "list":
		return x.list(r)
	case "subs":
		return proto.Subs(slices.Collect(subs.All(x.t, x.user)))
	case "unread":
		return x.unread(r)
	}
	return done(x.change(r))
}

// done answers that something is done, or its error.
func done(e api.Errno) []byte {
	if e != api.OK {
		return proto.Fail(e)
	}
	return proto.Done()
}

func (s *Server) sync(r proto.Request) []byte {
	p, e := delta.Next(s.b, r.User, r.Token, r.Limit)
	if e != api.OK {
		return proto.Fail(e)
	}
	return proto.Page(p)
}

// commit ends a transaction. Where only room is missing it may be tried again.
func (s *Server) commit(tx int, x session) []byte {
	at, e := s.b.Commit(x.t)
	if e != api.ErrFull {
		s.open.Delete(tx)
	}
	if e != api.OK {
		return proto.Fail(e)
	}
	return proto.Number("at", at)
}

func (x session) list(r proto.Request) []byte {
	l, more, e := list.Page(x.t, x.user, r.Feed, r.After, r.Limit)
	if e != api.OK {
		return proto.Fail(e)
	}
	return proto.Items(l, more)
}

func (x session) unread(r proto.Request) []byte {
	if !keys.Name(r.Feed) {
		return proto.Fail(api.ErrName)
	}
	n := marks.Unread(x.t, x.user, r.Feed)
	if n < 0 {
		return proto.Fail(api.ErrNone)
	}
	return proto.Number("unread", n)
}

// change does what a request writes.
func (x session) change(r proto.Request) api.Errno {
	switch r.Op {
	case "subscribe":
		return subs.Subscribe(x.t, x.user, r.Feed, r.Name)
	case "unsubscribe":
		return subs.Unsubscribe(x.t, x.user, r.Feed)
	case "folder":
		return subs.Add(x.t, x.user, r.Name)
	case "unfolder":
		return subs.Remove(x.t, x.user, r.Name)
	case "read":
		return marks.Read(x.t, x.user, r.Feed, r.Entry, r.On)
	case "star":
		return marks.Star(x.t, x.user, r.Feed, r.Entry, r.On)
	case "mark":
		return marks.Before(x.t, x.user, r.Feed, r.Before)
	}
	return api.ErrOp
}
