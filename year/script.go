package year

import (
	"strconv"
	"strings"

	"earmark/api"
)

// remark is what a line begins with that is not meant for the model.
const remark = "#"

// Lines returns the commands of a script: its lines that are neither empty nor remarks.
func Lines(script string) ([]string, api.Errno) {
	if len(script) > api.MaxText {
		return nil, api.ErrLimit
	}
	var l []string
	for line := range strings.SplitSeq(script, lineEnd) {
		if line != "" && !strings.HasPrefix(line, remark) {
			l = append(l, line)
		}
	}
	if len(l) > api.MaxLines {
		return nil, api.ErrLimit
	}
	return l, api.OK
}

// Run executes a script and returns what it prints; if a line is no command, its number.
func Run(script string) (string, int, api.Errno) {
	l, err := Lines(script)
	if err != api.OK {
		return "", 0, err
	}
	for i, line := range l {
		if err := Check(line); err != api.OK {
			return "", i, err
		}
	}
	y := New()
	var b strings.Builder
	for _, line := range l {
		output, err := y.Do(line)
		if err != api.OK {
			output = "error " + strconv.Itoa(int(err))
		}
		b.WriteString(output + lineEnd)
	}
	return b.String(), 0, api.OK
}
