package exo

import "janus/api"

// The raw calls, by the number that is a call's first word.
const (
	callAlloc = iota
	callGrant
	callFree
	callRevoke
	callMap
	callUnmap
	callLoad
	callStore
	callCopy
	callRead
	callWrite
	callSend
	callRecv
	callAllocExtent
	callGrantExtent
	callRevokeExtent
	callGet
	callPut
)

// smallEnd is what all words but values are below.
const smallEnd = 1 << 31

// form is what stands behind a call's number: small words first, as many as that, then values, from least to most of them.
type form struct {
	small, least, most int
}

var forms = [...]form{
	callAlloc:        {},
	callGrant:        {small: 3},
	callFree:         {small: 1},
	callRevoke:       {small: 1},
	callMap:          {small: 3},
	callUnmap:        {small: 1},
	callLoad:         {least: 1, most: 1},
	callStore:        {least: 2, most: 2},
	callCopy:         {small: 2},
	callRead:         {small: 2},
	callWrite:        {small: 2, least: 1, most: 1},
	callSend:         {small: 1, most: api.MaxMessage},
	callRecv:         {},
	callAllocExtent:  {small: 2},
	callGrantExtent:  {small: 3},
	callRevokeExtent: {small: 1},
	callGet:          {small: 2},
	callPut:          {small: 2, least: api.BlockWords, most: api.BlockWords},
}

// request is a call that was read: whose it is, its number, its small words, and its values.
type request struct {
	env, call int
	a, b, c   int // those that there are not are 0
	values    []uint64
}

// readRequest reads an environment's call, and answers whether it has a call's form.
func readRequest(env int, call []uint64) (request, bool) {
	if len(call) == 0 || call[0] >= uint64(len(forms)) {
		return request{}, false
	}
	f, behind := forms[call[0]], call[1:]
	if len(behind) < f.small+f.least || len(behind) > f.small+f.most {
		return request{}, false
	}
	var small [3]int
	for i, word := range behind[:f.small] {
		if word >= smallEnd {
			return request{}, false
		}
		small[i] = int(word)
	}
	x := request{env: env, call: int(call[0]), a: small[0], b: small[1], c: small[2], values: behind[f.small:]}
	return x, true
}
