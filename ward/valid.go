package ward

import "canebrake/api"

// validSlope counts the rows up to the first wrong cell: all of them have to be right.
func validSlope(s api.Slope) bool {
	if s.Wide < 1 || s.Wide > api.MaxWide || len(s.Cells)%s.Wide != 0 {
		return false
	}
	rows := len(s.Cells) / s.Wide
	if rows < 1 || rows > api.MaxWide {
		return false
	}
	right := 0
rows:
	for row := range rows {
		for column := range s.Wide {
			if !validCell(s.Cells[row*s.Wide+column]) {
				break rows
			}
		}
		right++
	}
	return right == rows
}

func validCell(c api.Cell) bool {
	return c.High >= 0 && c.High <= api.MaxHigh && c.Kind <= api.CellWater
}

func validCare(c api.Care) bool {
	return c.Steep >= 1 && c.Steep <= api.MaxHigh &&
		c.Reach >= 0 && c.Reach <= api.MaxReach &&
		c.Edge >= 0 && c.Edge <= api.MaxEdge
}
