package market

import (
	"slices"

	"corrody/api"
)

// node is a buyer or a good. Goods follow on all buyers that there may be.
type node int

func buyerNode(buyer int) node { return node(buyer) }

func goodNode(good int) node { return node(api.MaxSide + good) }

// edge joins a buyer with a good that is of use to them.
type edge struct{ buyer, good, use int }

// solve returns prices and spendings in balance.
func (m Market) solve() ([]api.Frac, [][]api.Frac) {
	all := m.edges()
	for set := range 1 << len(all) {
		edges := pick(all, set)
		// Along a circle of edges spendings can be moved until one of them is 0. So edges without a circle, fewer than the nodes, are enough.
		if len(edges) >= len(m.Budgets)+m.goods() || !m.reaches(edges) {
			continue
		}
		prices := m.pricesOn(edges)
		spend := m.spendOn(edges, prices)
		if m.areSpendings(spend) && m.balanced(prices, spend) {
			return prices, spend
		}
	}
	return nil, nil
}

// edges returns all edges.
func (m Market) edges() []edge {
	var edges []edge
	for buyer, row := range m.Uses {
		for good, use := range row {
			if use > 0 {
				edges = append(edges, edge{buyer, good, use})
			}
		}
	}
	return edges
}

// pick returns those edges whose indices are in a set.
func pick(edges []edge, set int) []edge {
	var picked []edge
	for at, e := range edges {
		if set>>at&1 == 1 {
			picked = append(picked, e)
		}
	}
	return picked
}

// reaches reports whether edges reach every buyer and every good.
func (m Market) reaches(edges []edge) bool {
	buyers, goods := 0, 0
	for _, e := range edges {
		buyers |= 1 << e.buyer
		goods |= 1 << e.good
	}
	return buyers == 1<<len(m.Budgets)-1 && goods == 1<<m.goods()-1
}

// pricesOn returns the prices at which buyers want all goods on their edges, and the buyers who are joined with a good, over any number of edges, can pay just the goods that are.
func (m Market) pricesOn(edges []edge) []api.Frac {
	prices := make([]api.Frac, m.goods())
	for good := range prices {
		// Values are relative to that of the good itself, which is 1.
		values := grow(edges, goodNode(good))
		sum := whole(0)
		for other := range prices {
			if value, ok := values[goodNode(other)]; ok {
				sum = plus(sum, value)
			}
		}
		prices[good] = over(m.budgetsOf(values), sum)
	}
	return prices
}

// spendOn returns what is spent on edges without a circle when all goods are paid. It may be less than 0.
func (m Market) spendOn(edges []edge, prices []api.Frac) [][]api.Frac {
	spend := make([][]api.Frac, len(m.Budgets))
	for buyer := range spend {
		spend[buyer] = slices.Repeat([]api.Frac{whole(0)}, len(prices))
	}
	for at, e := range edges {
		// The buyer's side is what is joined with them without this edge: what its budgets exceed its prices by must go over the edge.
		side := grow(slices.Delete(slices.Clone(edges), at, at+1), buyerNode(e.buyer))
		spent := m.budgetsOf(side)
		for good, price := range prices {
			if _, ok := side[goodNode(good)]; ok {
				spent = minus(spent, price)
			}
		}
		spend[e.buyer][e.good] = spent
	}
	return spend
}

// budgetsOf returns the sum of the budgets of the buyers among some nodes.
func (m Market) budgetsOf(nodes map[node]api.Frac) api.Frac {
	sum := 0
	for buyer, budget := range m.Budgets {
		if _, ok := nodes[buyerNode(buyer)]; ok {
			sum += budget
		}
	}
	return whole(sum)
}

// grow returns the nodes that edges join with a first one, and their values: a good's value is its price and a buyer's is the use that they get for a point, both relative to the first one's, so that on each edge the two values multiply to the use.
func grow(edges []edge, first node) map[node]api.Frac {
	values := map[node]api.Frac{first: whole(1)}
	for grown := 0; grown < len(values); {
		grown = len(values)
		for _, e := range edges {
			buyer, good := buyerNode(e.buyer), goodNode(e.good)
			gain, hasBuyer := values[buyer]
			price, hasGood := values[good]
			if hasBuyer && !hasGood {
				values[good] = over(whole(e.use), gain)
			}
			if hasGood && !hasBuyer {
				values[buyer] = over(whole(e.use), price)
			}
		}
	}
	return values
}
