package inquiry

import (
	"cloak/api"
	"cloak/base"
)

// Minutes returns the encoding of an opening.
func Minutes(o api.Opening) string {
	return base.Nums([]int{o.Version, o.Gate, o.No}) + base.Text(o.Reason) + base.Nums(o.Jurors) + base.Int(o.Holder)
}

// ReadMinutes returns the opening with an encoding.
func ReadMinutes(s string) (api.Opening, bool) {
	r := base.OpenReader(s)
	l := make([]int, 3)
	copy(l, r.Nums())
	o := api.Opening{Version: l[0], Gate: l[1], No: l[2], Reason: r.Text(), Jurors: r.Nums(), Holder: r.Int()}
	// Whatever was read from another string has another encoding.
	if Minutes(o) != s {
		return api.Opening{}, false
	}
	return o, true
}
