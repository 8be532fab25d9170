package regs

import (
	"hermitage/api"
)

// alwaysZero is the register that nothing changes.
const alwaysZero = 0

// registers is what each of them has.
type registers [api.MaxRegs]uint32

func (r *registers) get(i int) (uint32, api.Errno) {
	if !r.has(i) {
		return 0, api.ErrArg
	}
	return r[i], api.OK
}

func (r *registers) set(i int, v uint32) api.Errno {
	if !r.has(i) {
		return api.ErrArg
	}
	if i != alwaysZero {
		r[i] = v
	}
	return api.OK
}

func (r *registers) has(i int) bool {
	return 0 <= i && i < len(r)
}

// all is a value, so that who has it has a copy.
func (r *registers) all() [api.MaxRegs]uint32 {
	return *r
}
