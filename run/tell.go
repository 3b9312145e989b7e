package run

import (
	"strconv"
	"strings"

	"eden/api"
)

func digits(cells []int) string {
	var out strings.Builder
	for _, cell := range cells {
		out.WriteByte(byte('0' + cell))
	}
	return out.String()
}

func joined(between string, numbers ...int) string {
	out := make([]string, len(numbers))
	for i, n := range numbers {
		out[i] = strconv.Itoa(n)
	}
	return strings.Join(out, between)
}

// drawn writes a pattern as it is read, but for that without a cell, which a line could not have.
func drawn(p api.Pattern) string {
	if len(p.Cells) == 0 {
		return "-"
	}
	rows := make([]string, p.High)
	for i := range rows {
		rows[i] = digits(p.Cells[i*p.Wide : (i+1)*p.Wide])
	}
	return strings.Join(rows, "/")
}
