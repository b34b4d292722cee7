package hist

import "fugue/api"

func rightOp(op api.Op) bool {
	switch op.Kind {
	case api.TPublish:
		return true
	case api.TLookup:
		return op.Value == ""
	case api.TSnapshot:
		return op.Value == "" && op.Key == 0
	}
	return false
}

// rightReply: can a call of a known kind be answered so at all, whatever is in the table?
func rightReply(kind int, r api.Reply) bool {
	if kind == api.TSnapshot {
		return r.Ok && r.Value == "" && len(r.Keys) == len(r.Values) && rise(r.Keys)
	}
	mayTell := kind == api.TLookup && r.Ok
	return (mayTell || r.Value == "") && tellsNoKeys(r)
}

func isZero(r api.Reply) bool {
	return !r.Ok && r.Value == "" && tellsNoKeys(r)
}

func tellsNoKeys(r api.Reply) bool {
	return len(r.Keys) == 0 && len(r.Values) == 0
}

func rise(keys []int) bool {
	for i := 1; i < len(keys); i++ {
		if keys[i-1] >= keys[i] {
			return false
		}
	}
	return true
}
