package vault

import (
	"entrepot/api"
	"entrepot/device"
	"entrepot/log"
)

const (
	firstGen    = 1 // that of a vault that was just formatted, and the least one
	superblocks = 2 // so many sectors are ahead of the areas
	areas       = 2
)

// check returns why a device cannot have a vault, if that is so.
func check(d *device.Device) api.Errno {
	// The sectors of the least vault are an area of every device that can have one.
	return log.Check(d, api.Area{To: api.MinVault, Gen: firstGen})
}

// areaOf returns the area of a generation on a device of n sectors.
func areaOf(n, gen int) api.Area {
	h := (n - superblocks) / areas
	from := superblocks + gen%areas*h
	return api.Area{From: from, To: from + h, Gen: gen}
}

// sectors returns the number of sectors of an area.
func sectors(a api.Area) int {
	return a.To - a.From
}
