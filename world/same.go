package world

import (
	"slices"

	"pleach/api"
)

// Same tells whether a and b are alike in all.
func Same(a, b api.World) bool {
	return slices.EqualFunc(a.Nodes, b.Nodes, sameNode) && slices.Equal(a.Fly, b.Fly) && slices.Equal(a.Said, b.Said) && sameHier(a.H, b.H)
}

func sameNode(a, b api.Node) bool {
	return a.On == b.On && a.Inc == b.Inc && a.Name == b.Name && a.Bad == b.Bad && sameTie(a.T, b.T) && sameFeed(a.F, b.F)
}

// numbers tells all of t that is one number.
func numbers(t api.Tie) [11]int {
	return [11]int{t.ID, t.Inc, t.Now, t.Parent, t.PInc, t.Grand, t.Epoch, t.Born, t.Asked, t.Until, t.Step}
}

func sameTie(a, b api.Tie) bool {
	return numbers(a) == numbers(b) && slices.Equal(a.Path, b.Path) && slices.Equal(a.Kids, b.Kids)
}

func sameFeed(a, b api.Feed) bool {
	return a.Next == b.Next && a.Top == b.Top && a.Ask == b.Ask && slices.Equal(a.Ring, b.Ring) && slices.Equal(a.Win, b.Win) && slices.Equal(a.Log, b.Log)
}

func sameHier(a, b api.Hier) bool {
	return a.K == b.K && slices.EqualFunc(a.Dist, b.Dist, sameRow) && slices.EqualFunc(a.Levels, b.Levels, sameLevel)
}

func sameRow(a, b []int) bool {
	return slices.Equal(a, b)
}

func sameLevel(a, b []api.Cluster) bool {
	return slices.EqualFunc(a, b, sameCluster)
}

func sameCluster(a, b api.Cluster) bool {
	return a.Leader == b.Leader && slices.Equal(a.Members, b.Members)
}
