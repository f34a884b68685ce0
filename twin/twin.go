// Package twin makes copies that share no memory with what they are made of.
package twin

import (
	"slices"

	"pleach/api"
)

// Clusters tells a copy of cs.
func Clusters(cs []api.Cluster) []api.Cluster {
	out := slices.Clone(cs)
	for i := range out {
		out[i].Members = slices.Clone(out[i].Members)
	}
	return out
}

// Hier tells a copy of h.
func Hier(h api.Hier) api.Hier {
	h.Dist = slices.Clone(h.Dist)
	for i := range h.Dist {
		h.Dist[i] = slices.Clone(h.Dist[i])
	}
	h.Levels = slices.Clone(h.Levels)
	for i := range h.Levels {
		h.Levels[i] = Clusters(h.Levels[i])
	}
	return h
}

// Feed tells a copy of f.
func Feed(f api.Feed) api.Feed {
	f.Ring = slices.Clone(f.Ring)
	f.Win = slices.Clone(f.Win)
	f.Log = slices.Clone(f.Log)
	return f
}

// Tie tells a copy of t.
func Tie(t api.Tie) api.Tie {
	t.Path = slices.Clone(t.Path)
	t.Kids = slices.Clone(t.Kids)
	return t
}

// Node tells a copy of n.
func Node(n api.Node) api.Node {
	n.T, n.F = Tie(n.T), Feed(n.F)
	return n
}

// World tells a copy of w.
func World(w api.World) api.World {
	w.Nodes = slices.Clone(w.Nodes)
	for i := range w.Nodes {
		w.Nodes[i] = Node(w.Nodes[i])
	}
	w.Fly, w.Said = slices.Clone(w.Fly), slices.Clone(w.Said)
	w.H = Hier(w.H)
	return w
}
