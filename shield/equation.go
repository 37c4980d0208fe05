package shield

import (
	"lumberroom/api"
	"lumberroom/field"
)

// equation tells of the lost parts: each multiplied by its weight, they sum up
// to bytes.
type equation struct {
	weights, bytes []byte
}

// equationsOf has as many equations as parts are lost, of the first guards that
// are there: so many must be there.
func equationsOf(l []api.Shard, n int) []equation {
	lost := n - len(bytesThere(l[:n]))
	var all []equation
	for j, shard := range l[n:] {
		if len(all) == lost {
			break
		}
		if shard.Has {
			all = append(all, equationOf(l[:n], shard.Bytes, j))
		}
	}
	return all
}

// equationOf takes the parts that are there out of guard j.
func equationOf(parts []api.Shard, guard string, j int) equation {
	e := equation{bytes: []byte(guard)}
	for i, part := range parts {
		if part.Has {
			// To add is to take away: the sum of a number and itself is 0.
			addTimes(e.bytes, []byte(part.Bytes), weight(j, i))
		} else {
			e.weights = append(e.weights, weight(j, i))
		}
	}
	return e
}

// solve makes of equation k one of lost part k alone, with the weight 1.
//
// No two equations need to be swapped: the weights are the inverses of sums of
// two numbers, one for the row and one for the column, all of them unlike. Each
// square of such weights can be undone (it is one of Cauchy's), so that where a
// weight is divided by it is not 0.
func solve(all []equation) {
	for k, e := range all {
		inverse, _ := field.Inv(e.weights[k])
		e.multiply(inverse)
		for other, f := range all {
			if other != k {
				f.addTimes(e, f.weights[k])
			}
		}
	}
}

func (e equation) multiply(factor byte) {
	multiply(e.weights, factor)
	multiply(e.bytes, factor)
}

func (e equation) addTimes(f equation, factor byte) {
	addTimes(e.weights, f.weights, factor)
	addTimes(e.bytes, f.bytes, factor)
}

func multiply(list []byte, factor byte) {
	for at, number := range list {
		list[at] = field.Mul(number, factor)
	}
}
