package alert

import "ringdown/api"

// roll is the keys of the signers, and how many of them have to sign.
type roll struct {
	keys   []key
	quorum int
}

func rollOf(r api.Roll) roll {
	var keys []key
	for _, k := range r.Keys {
		keys = append(keys, key(k))
	}
	return roll{keys, r.Quorum}
}

// check returns the first error of a notice.
func (r roll) check(n api.Notice) api.Errno {
	switch {
	case !isAlert(n.Alert):
		return api.ErrAlert
	case !r.isSigned(n):
		return api.ErrSign
	case len(n.Signatures) < r.quorum:
		return api.ErrQuorum
	}
	return api.OK
}

// isSigned says that all signatures of a notice, whose alert is valid, are such, by increasing signers.
func (r roll) isSigned(n api.Notice) bool {
	digest, last := digestOf(n.Alert), -1
	for _, s := range n.Signatures {
		if !isFrom(last+1, s.Signer, len(r.keys)-1) || !r.keys[s.Signer].isSigned(digest, s.Number) {
			return false
		}
		last = s.Signer
	}
	return true
}

func (r roll) isValid(n api.Notice) bool { return r.check(n) == api.OK }
