package num

import "ringdown/api"

// CheckMatrix returns ErrShape if m has too many rows or columns, or rows of different lengths, and ErrNum unless all elements are valid.
func CheckMatrix(m [][]api.Num) api.Errno {
	_, e := readMatrix(m)
	return e
}

// Times returns m times v.
func Times(m [][]api.Num, v []api.Num) ([]api.Num, api.Errno) {
	rows, e := readMatrix(m)
	if e != api.OK {
		return nil, e
	}
	columns := 0
	if len(rows) > 0 {
		columns = len(rows[0])
	}
	vector, e := readVector(v, columns)
	if e != api.OK {
		return nil, e
	}
	product := make([]value, len(rows))
	for i, row := range rows {
		product[i] = dot(row, vector)
	}
	return writeAll(product)
}

// Det returns the determinant of m.
func Det(m [][]api.Num) (api.Num, api.Errno) {
	rows, e := readSquare(m)
	if e != api.OK {
		return "", e
	}
	under := natOf(1)
	wholeRows := make([][]gauss, len(rows))
	for i, row := range rows {
		common := commonUnder(row)
		under = under.times(common)
		// The right side is of no importance here.
		wholeRows[i] = append(wholeRow(row, common), gauss{})
	}
	determinant, _ := cramer(wholeRows)
	return write(value{determinant, under})
}

// Solve returns the x for which m times x is v.
func Solve(m [][]api.Num, v []api.Num) ([]api.Num, api.Errno) {
	rows, e := readSquare(m)
	if e != api.OK {
		return nil, e
	}
	vector, e := readVector(v, len(rows))
	if e != api.OK {
		return nil, e
	}
	wholeRows := make([][]gauss, len(rows))
	for i, row := range rows {
		row = append(row, vector[i])
		wholeRows[i] = wholeRow(row, commonUnder(row))
	}
	determinant, tops := cramer(wholeRows)
	if determinant.isZero() {
		return nil, api.ErrSingular
	}
	solution := make([]value, len(tops))
	for i, top := range tops {
		solution[i] = value{top.times(determinant.conjugate()), determinant.norm()}
	}
	return writeAll(solution)
}

func readMatrix(m [][]api.Num) ([][]value, api.Errno) {
	// The shapes of all rows come before the elements of the first one.
	shape := func(row []api.Num) (int, api.Errno) {
		if len(row) != len(m[0]) {
			return 0, api.ErrShape
		}
		return len(row), api.OK
	}
	if _, e := readAll(m, api.MaxSide, api.ErrShape, shape); e != api.OK {
		return nil, e
	}
	return readAll(m, api.MaxSide, api.ErrShape, func(row []api.Num) ([]value, api.Errno) {
		return readAll(row, api.MaxSide, api.ErrShape, read)
	})
}

func readSquare(m [][]api.Num) ([][]value, api.Errno) {
	rows, e := readMatrix(m)
	if e == api.OK && len(rows) > 0 && len(rows[0]) != len(rows) {
		return nil, api.ErrShape
	}
	return rows, e
}

func readVector(v []api.Num, n int) ([]value, api.Errno) {
	if len(v) != n {
		return nil, api.ErrShape
	}
	return readAll(v, n, api.ErrShape, read)
}

// commonUnder returns the least common multiple of the denominators of values.
func commonUnder(list []value) nat {
	common := natOf(1)
	for _, a := range list {
		common = common.times(a.under.over(common.gcd(a.under)))
	}
	return common
}

// wholeRow returns the values times a common multiple of their denominators.
func wholeRow(list []value, common nat) []gauss {
	row := make([]gauss, len(list))
	for i, a := range list {
		row[i] = a.top.timesNat(common.over(a.under))
	}
	return row
}
