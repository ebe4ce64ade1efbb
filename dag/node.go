package dag

import (
	"klaxon/api"
	"klaxon/math"
	"klaxon/series"
	"klaxon/value"
)

// How a threshold asks.
const (
	howGreater = "gt"
	howLess    = "lt"
	howIn      = "in"
	howOut     = "out"
)

// mayNotBe is whether n is a node that no rule may have (P12.2).
func mayNotBe(n api.Node) bool {
	return !math.Ref(n.Ref) || !hasItsParts(n) || n != withItsParts(n)
}

// hasItsParts is whether the fields that have a part of n's Kind may be so.
// Whether Input is a node's ref is no question to one node alone.
func hasItsParts(n api.Node) bool {
	switch n.Kind {
	case api.NodeQuery:
		return n.Source != "" && len(n.Source) <= api.MaxSource
	case api.NodeReduce:
		return reduces(n.How)
	case api.NodeMath:
		_, err, _ := math.Parse(n.Text)
		return err == api.OK
	case api.NodeThreshold:
		return hasBounds(n)
	}
	return false
}

// reduces asks the layer that reduces, so that there is one list of the ways.
func reduces(how string) bool {
	_, err := series.Reduce(how, false)
	return err != api.ErrHow
}

func hasBounds(n api.Node) bool {
	switch n.How {
	case howGreater, howLess:
		return isBound(n.Low)
	case howIn, howOut:
		return isBound(n.Low) && isBound(n.High)
	}
	return false
}

func isBound(v api.Value) bool {
	return value.Check(v) == api.OK && v != value.Null() && v != value.NaN()
}

// withItsParts is n without the fields that have no part of its Kind: if that is
// another node, one of these was not zero.
func withItsParts(n api.Node) api.Node {
	own := api.Node{Ref: n.Ref, Kind: n.Kind}
	switch n.Kind {
	case api.NodeQuery:
		own.Source = n.Source
	case api.NodeReduce:
		own.Input, own.How, own.Strict = n.Input, n.How, n.Strict
	case api.NodeMath:
		own.Text = n.Text
	case api.NodeThreshold:
		own.Input, own.How, own.Low = n.Input, n.How, n.Low
		if n.How == howIn || n.How == howOut {
			own.High = n.High
		}
	}
	return own
}
