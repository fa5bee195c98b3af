package proj

import (
	"skymosaic/api"
	"skymosaic/wide"
)

// vector is a point in homogeneous coordinates, or a row of a matrix. No number that is computed here has more than 2100
// digits, so that all of them are in the range of package wide.
type vector [3]wide.Int

// matrix is the rows of a matrix.
type matrix [3]vector

// matrixOf returns the matrix of a projection.
func matrixOf(p api.Proj) matrix {
	return filled(func(row, column int) wide.Int { return wide.From(p.M[3*row+column]) })
}

// filled returns the matrix with the numbers that cell returns for the places of a row and a column.
func filled(cell func(row, column int) wide.Int) matrix {
	m := matrix{}
	for row := range 3 {
		for column := range 3 {
			m[row][column] = cell(row, column)
		}
	}
	return m
}

// multiplied returns the product of two matrices.
func multiplied(a, b matrix) matrix {
	return filled(func(row, column int) wide.Int {
		return dot(a[row], vector{b[0][column], b[1][column], b[2][column]})
	})
}

// image returns the product of a matrix and a vector.
func image(m matrix, v vector) vector {
	return vector{dot(m[0], v), dot(m[1], v), dot(m[2], v)}
}

// isFlat tells whether the determinant of m is 0.
func isFlat(m matrix) bool {
	return wide.Sign(dot(m[0], cross(m[1], m[2]))) == 0
}

// adjugate returns the matrix that undoes m but for a factor, which is the determinant of m.
func adjugate(m matrix) matrix {
	columns := [3]vector{cross(m[1], m[2]), cross(m[2], m[0]), cross(m[0], m[1])}
	return filled(func(row, column int) wide.Int { return columns[column][row] })
}

// normal returns the normal projection of a matrix with a number that is not 0, and ErrRange if one of its numbers is out of range.
func normal(m matrix) (api.Proj, api.Errno) {
	common := divisor(m)
	p := api.Proj{}
	for i := range p.M {
		quotient, _, _ := wide.Div(m[i/3][i%3], common)
		n, ok := quotient.Small()
		if !ok || !isWithin(n, api.MaxCoef) {
			return api.Proj{}, api.ErrRange
		}
		p.M[i] = n
	}
	return p, api.OK
}

// divisor returns the greatest common divisor of the numbers of a matrix, with the sign of the first one that is not 0.
func divisor(m matrix) wide.Int {
	common, sign := wide.From(0), 0
	for _, row := range m {
		for _, n := range row {
			common = wide.Gcd(common, n)
			if sign == 0 {
				sign = wide.Sign(n)
			}
		}
	}
	return product(common, wide.From(sign))
}

// cross returns the vector whose product with v is the determinant of v, a and b.
func cross(a, b vector) vector {
	result := vector{}
	for i := range 3 {
		j, k := (i+1)%3, (i+2)%3
		result[i], _ = wide.Sub(product(a[j], b[k]), product(a[k], b[j]))
	}
	return result
}

// dot returns the sum of the products of the numbers of two vectors.
func dot(a, b vector) wide.Int {
	total := wide.From(0)
	for i := range 3 {
		total, _ = wide.Add(total, product(a[i], b[i]))
	}
	return total
}

// product returns a * b.
func product(a, b wide.Int) wide.Int {
	result, _ := wide.Mul(a, b)
	return result
}
