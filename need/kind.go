package need

import (
	"strconv"

	"dayshift/api"
)

// The most units that a sum of them tells.
const maxTotal = api.MaxGrow * api.MaxUnits

// kind is what is needed, or held, of a resource.
type kind interface {
	text() string
}

type units struct{ n int64 }

type shared struct{}

type exclusive struct{}

// unknown is of a mode that there is not.
type unknown struct{}

func kindOf(mode int, n int64) kind {
	switch mode {
	case 0:
		return units{n}
	case 1:
		return shared{}
	case 2:
		return exclusive{}
	}
	return unknown{}
}

func (u units) text() string {
	if u.n < 0 {
		return unknown{}.text()
	}
	return strconv.FormatInt(u.n, 10)
}

func (shared) text() string { return "s" }

func (exclusive) text() string { return "x" }

func (unknown) text() string { return "?" }

// total is what is held of a resource, kind by kind.
type total struct{ units, shared, exclusive int64 }

func (t *total) add(k kind) {
	switch k := k.(type) {
	case units:
		// What is added is made smaller first: the sum would go round with the greatest number.
		t.units = min(max(t.units+min(max(k.n, -maxTotal), maxTotal), 0), maxTotal)
	case shared:
		t.shared++
	case exclusive:
		t.exclusive++
	}
}
