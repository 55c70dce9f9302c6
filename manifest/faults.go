package manifest

import "moraine/api"

// Errors of the layers below, by what they were met at: one number of theirs (the disk's ErrMissing, say) is told by another one at each.
type (
	ofState    struct{ api.Errno } // a state that may not be
	ofCurrent  struct{ api.Errno } // a CURRENT that can't be read
	ofManifest struct{ api.Errno } // a manifest that can't be read
)

// told tells the number that is answered for an error; what was met at none of these things is told as it is.
func told(err error) api.Errno {
	switch e := err.(type) {
	case ofState:
		return api.ErrArg
	case ofCurrent:
		return api.ErrCurrent
	case ofManifest:
		return api.ErrManifest
	case api.Errno:
		return e
	}
	return api.OK
}
