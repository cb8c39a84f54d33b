package origin

import (
	"slices"
	"testing"

	"cottonpad/api"
)

// P9.1: minutes are told as spans in increasing order, as few as there can be. In one room a scene leaves one span at most, so that several ones are asked for here.
func TestJoined(t *testing.T) {
	for i, x := range []struct{ spans, want []api.Span }{
		{nil, nil},
		{[]api.Span{{Lo: 5, Hi: 5}}, []api.Span{{Lo: 5, Hi: 5}}},
		{[]api.Span{{Lo: 5, Hi: 7}, {Lo: 5, Hi: 7}}, []api.Span{{Lo: 5, Hi: 7}}},
		{[]api.Span{{Lo: 5, Hi: 7}, {Lo: 6, Hi: 9}}, []api.Span{{Lo: 5, Hi: 9}}},
		{[]api.Span{{Lo: 5, Hi: 9}, {Lo: 6, Hi: 7}}, []api.Span{{Lo: 5, Hi: 9}}},
		{[]api.Span{{Lo: 5, Hi: 7}, {Lo: 8, Hi: 9}}, []api.Span{{Lo: 5, Hi: 9}}},
		{[]api.Span{{Lo: 8, Hi: 9}, {Lo: 5, Hi: 7}}, []api.Span{{Lo: 5, Hi: 9}}},
		{[]api.Span{{Lo: 5, Hi: 7}, {Lo: 9, Hi: 9}}, []api.Span{{Lo: 5, Hi: 7}, {Lo: 9, Hi: 9}}},
		{[]api.Span{{Lo: 9, Hi: 9}, {Lo: 0, Hi: 2}, {Lo: 5, Hi: 7}}, []api.Span{{Lo: 0, Hi: 2}, {Lo: 5, Hi: 7}, {Lo: 9, Hi: 9}}},
		{[]api.Span{{Lo: 9, Hi: 9}, {Lo: 0, Hi: 2}, {Lo: 5, Hi: 7}, {Lo: 3, Hi: 3}}, []api.Span{{Lo: 0, Hi: 3}, {Lo: 5, Hi: 7}, {Lo: 9, Hi: 9}}},
		{[]api.Span{{Lo: 9, Hi: 9}, {Lo: 0, Hi: 2}, {Lo: 5, Hi: 7}, {Lo: 1, Hi: 20}}, []api.Span{{Lo: 0, Hi: 20}}},
	} {
		before := slices.Clone(x.spans)
		if spans := joined(x.spans...); !slices.Equal(spans, x.want) {
			t.Error(i, spans, x.want)
		}
		if !slices.Equal(x.spans, before) {
			t.Error(i, "written to", x.spans)
		}
	}
}
