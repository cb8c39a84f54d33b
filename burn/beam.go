package burn

import (
	"slices"

	"cottonpad/api"
)

// beam is a lamp at work, with lights, all of them valid.
type beam struct {
	api.Lamp
	lights []int
}

// clean returns how much light may have come through clean air in a second. It was no less than what came through then or later, since a lamp only fouls; and the lamp may have fouled after the last second, or before the first one.
func (b beam) clean(second int) api.Span {
	return api.Span{Lo: max(b.After, slices.Max(b.lights[second:])), Hi: b.Before}
}

// dark returns the dark of a second. The less light is of clean air, the less dark it was.
func (b beam) dark(second int) api.Span {
	clean, light := b.clean(second), b.lights[second]
	return api.Span{Lo: darkOf(light, clean.Lo), Hi: darkOf(light, clean.Hi)}
}

// darkOf returns how dark it is where so much light comes through, and so much would come through clean air.
func darkOf(light, clean int) int { return api.Whole - api.Whole*light/clean }
