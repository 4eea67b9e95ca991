package studio

import (
	"strconv"
	"strings"

	"handlebody/api"
	"handlebody/cells"
	"handlebody/homology"
	"handlebody/manifold"
	"handlebody/surface"
)

// question about a complex.
type question struct {
	form string
	tell func(c cells.Complex) (string, error)
}

func questions() []question {
	return []question{
		{"euler A", tellEuler},
		{"homology A", tellHomology},
		{"shape A", cells.Text},
		{"surface A", tellSurface},
	}
}

func tellEuler(c cells.Complex) (string, error) {
	n, err := cells.Euler(c)
	if err != nil {
		return "", err
	}
	return strconv.Itoa(n), nil
}

func tellHomology(c cells.Complex) (string, error) {
	l, err := homology.Complex(c)
	if err != nil {
		return "", err
	}
	groups, err := homology.Of(l)
	if err != nil {
		return "", err
	}
	return joined(groups, ", ", groupText), nil
}

func groupText(g api.Group) string {
	var out []string
	if g.Free > 0 {
		out = append(out, "Z^"+strconv.Itoa(g.Free))
	}
	for _, order := range g.Torsion {
		out = append(out, "Z/"+strconv.Itoa(order))
	}
	if len(out) == 0 {
		return "0"
	}
	return strings.Join(out, " + ")
}

func tellSurface(c cells.Complex) (string, error) {
	k, err := manifold.Surface(c)
	if err != nil {
		return "", err
	}
	return joined(k.Pieces, "; ", pieceText), nil
}

func pieceText(p surface.Piece) string {
	turning := "plain"
	if p.Turning {
		turning = "orientable"
	}
	return turning + " " + strconv.Itoa(p.Genus) + " " + strconv.Itoa(p.Rims)
}

// joined texts of all of a list, with something between.
func joined[T any](l []T, between string, text func(x T) string) string {
	out := make([]string, len(l))
	for i, x := range l {
		out[i] = text(x)
	}
	return strings.Join(out, between)
}
