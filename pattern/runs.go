package pattern

import (
	"strconv"
	"strings"

	"eden/api"
)

// Runs writes a pattern by its runs.
func Runs(p api.Pattern) (string, error) {
	if err := Check(p); err != nil {
		return "", err
	}
	var out strings.Builder
	out.WriteString("x = " + strconv.Itoa(p.Wide) + ", y = " + strconv.Itoa(p.High) + "\n")
	down := 0 // the row up to which `$` were written
	for y := range p.High {
		row := withoutEnd(p.Cells[y*p.Wide : (y+1)*p.Wide])
		if len(row) > 0 {
			writeRun(&out, y-down, '$')
			writeRow(&out, row)
			down = y
		}
	}
	out.WriteString("!\n")
	return out.String(), nil
}

// withoutEnd leaves out the 0s at a row's end.
func withoutEnd(row []int) []int {
	for len(row) > 0 && row[len(row)-1] == 0 {
		row = row[:len(row)-1]
	}
	return row
}

func writeRow(out *strings.Builder, row []int) {
	for len(row) > 0 {
		times := 1
		for times < len(row) && row[times] == row[0] {
			times++
		}
		writeRun(out, times, tagOf(row[0]))
		row = row[times:]
	}
}

func writeRun(out *strings.Builder, times int, tag byte) {
	if times == 0 {
		return
	}
	if times > 1 {
		out.WriteString(strconv.Itoa(times))
	}
	out.WriteByte(tag)
}

func tagOf(cell int) byte {
	if cell == 0 {
		return 'b'
	}
	return 'o'
}
