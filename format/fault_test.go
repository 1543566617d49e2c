package format

import (
	"errors"
	"testing"

	"mullion/api"
)

// A fault deep inside says in which places it was found, the outermost first.
func TestP101AFaultSaysWhere(t *testing.T) {
	for f, want := range map[string]string{
		"#{":                   "error 100",
		"x#{}":                 "in #{}: error 100",
		"#{?1,#{u:#{z z}}}#{}": "in #{?1,#{u:#{z z}}}: in #{u:#{z z}}: in #{z z}: error 100",
		"#{p2000:a}":           "in #{p2000:a}: error 2",
	} {
		_, err := newExpander(nil).expand(f, 0)
		var why fault
		if err == nil || err.Error() != want || !errors.As(err, &why) || why.errno == api.OK {
			t.Errorf("%q: %v", f, err)
		}
	}
}
