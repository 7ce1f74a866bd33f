package network

import (
	"slices"

	"fasti/api"
)

const maxData = 1 << 20 // bytes of a packet

func valid(n api.Net) bool {
	wrong := func(p api.Packet) bool { return !validPacket(p) }
	return len(n.Queue) <= api.MaxPackets && !slices.ContainsFunc(n.Queue, wrong) && ordered(n.Apart)
}

func validPacket(p api.Packet) bool { return different(p.From, p.To) && len(p.Data) <= maxData }

// different reports whether a and b are the numbers of two parties.
func different(a, b int) bool { return party(a) && party(b) && a != b }

func party(a int) bool { return a >= 0 && a < api.MaxNodes }

func full(n api.Net) bool { return len(n.Queue) >= api.MaxPackets }

// find returns the first reason why there is no packet with this index.
func find(n api.Net, at int) (e api.Errno) {
	switch {
	case !valid(n):
		return api.ErrNet
	case at < 0 || at >= len(n.Queue):
		return api.ErrArg
	}
	return api.OK
}

// with returns links with a further packet.
func with(n api.Net, p api.Packet) api.Net {
	// Without Clip, two packets that follow the same ones could end in the same memory.
	n.Queue = append(slices.Clip(n.Queue), p)
	return n
}

// without returns links without one of their packets.
func without(n api.Net, at int) api.Net {
	// The third index keeps append from moving packets within the argument.
	n.Queue = append(n.Queue[:at:at], n.Queue[at+1:]...)
	return n
}
