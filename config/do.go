package config

import (
	"slices"

	"drawbridge/api"
)

// Do returns the configuration after o: the errors of Check and of CheckOp, and that of the operation.
func Do(c api.Config, o api.Op) (api.Config, api.Errno) {
	if e := Check(c); e != api.OK {
		return api.Config{}, e
	}
	if e := CheckOp(o); e != api.OK {
		return api.Config{}, e
	}
	return deeds()[o.Kind](c, o)
}

// deeds has what each kind of operation does, where the configuration and the operation are valid. What it returns
// shares no memory with the configuration.
func deeds() map[int]func(api.Config, api.Op) (api.Config, api.Errno) {
	return map[int]func(api.Config, api.Op) (api.Config, api.Errno){
		api.OpPeer:  setPeer,
		api.OpOff:   setOff,
		api.OpDrop:  drop,
		api.OpRoute: setRoute,
		api.OpBlock: block,
	}
}

func setPeer(c api.Config, o api.Op) (api.Config, api.Errno) {
	at, there := peerAt(c, o.ID)
	if !there && len(c.Peers) == api.MaxPeers {
		return api.Config{}, api.ErrFull
	}
	peers := set(c.Peers, at, there, api.Member{ID: o.ID, Key: o.Key})
	return api.Config{Peers: peers, Routes: clone(c.Routes)}, api.OK
}

func setOff(c api.Config, o api.Op) (api.Config, api.Errno) {
	at, there := peerAt(c, o.ID)
	if !there {
		return api.Config{}, api.ErrNone
	}
	after := Copy(c)
	after.Peers[at].Off = true
	return after, api.OK
}

func drop(c api.Config, o api.Op) (api.Config, api.Errno) {
	at, there := peerAt(c, o.ID)
	if !there {
		return api.Config{}, api.ErrNone
	}
	leads := func(r api.Route) bool { return r.Peer == o.ID }
	return api.Config{Peers: put(c.Peers, at, at+1), Routes: slices.DeleteFunc(clone(c.Routes), leads)}, api.OK
}

func setRoute(c api.Config, o api.Op) (api.Config, api.Errno) {
	if _, there := peerAt(c, o.ID); !there {
		return api.Config{}, api.ErrNone
	}
	at, there := routeAt(c, o.Addr, o.Bits)
	if !there && len(c.Routes) == api.MaxRoutes {
		return api.Config{}, api.ErrFull
	}
	routes := set(c.Routes, at, there, api.Route{Addr: o.Addr, Bits: o.Bits, Peer: o.ID})
	return api.Config{Peers: clone(c.Peers), Routes: routes}, api.OK
}

func block(c api.Config, o api.Op) (api.Config, api.Errno) {
	at, there := routeAt(c, o.Addr, o.Bits)
	if !there {
		return api.Config{}, api.ErrNone
	}
	return api.Config{Peers: clone(c.Peers), Routes: put(c.Routes, at, at+1)}, api.OK
}
