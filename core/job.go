package core

import (
	"hermitage/alu"
	"hermitage/api"
	"hermitage/csr"
	"hermitage/isa"
	"hermitage/regs"
)

// wordBytes is how many bytes a word has, and so an instruction.
const wordBytes = 4

// job is a right instruction that is to be done, with registers that were made: nothing of it can be refused, but a register of the kernel's mode that is only read.
type job struct {
	i     api.Instr
	r     *regs.File
	c     *csr.File
	clock int
	plain int    // what alu does for it
	pc    uint32 // where it is
	next  uint32
	a, b  uint32
}

// newJob takes what the registers have ahead of anything being done, since D may be A or B.
func newJob(i api.Instr, r *regs.File, c *csr.File, clock int) *job {
	a, _ := r.Get(i.A)
	b, _ := r.Get(i.B)
	pc := r.Pc()
	return &job{i: i, r: r, c: c, clock: clock, plain: i.Op, pc: pc, next: pc + wordBytes, a: a, b: b}
}

// way is how the job is done. What is another kind with something of its own ahead of it falls through to that kind.
func (j *job) way() func() api.Effect {
	if isa.Kernel(j.i.Op) {
		return j.wayOfKernel()
	}
	switch j.i.Op {
	case api.OpAddi, api.OpAndi, api.OpOri, api.OpXori, api.OpShli, api.OpShri, api.OpSari, api.OpSlti:
		j.plain, _ = alu.Plain(j.i.Op)
		j.b = j.number()
		fallthrough
	case api.OpAdd, api.OpSub, api.OpAnd, api.OpOr, api.OpXor, api.OpShl, api.OpShr, api.OpSar, api.OpSlt, api.OpSltu, api.OpMul, api.OpDivu, api.OpRemu:
		return j.reckon
	case api.OpLui:
		return j.upper
	case api.OpLw:
		if j.isAskew() {
			return j.askew
		}
		fallthrough
	case api.OpLb, api.OpLbu:
		return j.load
	case api.OpSw:
		if j.isAskew() {
			return j.askew
		}
		fallthrough
	case api.OpSb:
		return j.store
	case api.OpBeq, api.OpBne, api.OpBlt, api.OpBltu:
		return j.branch
	case api.OpJal:
		return j.jump
	case api.OpJalr:
		return j.jumpByRegister
	case api.OpCall:
		return j.call
	}
	return j.stop // OpBrk
}

// wayOfKernel is how the job is done, of an operation of the kernel's mode.
func (j *job) wayOfKernel() func() api.Effect {
	if j.c.Mode().User {
		return j.forbidden
	}
	switch j.i.Op {
	case api.OpHcall:
		return j.ask
	case api.OpHalt:
		return j.halt
	case api.OpInv:
		return j.forget
	case api.OpRet:
		return j.leave
	case api.OpCsrr:
		return j.readControl
	}
	return j.writeControl // OpCsrw
}

func (j *job) reckon() api.Effect {
	v, _ := alu.Do(j.plain, j.a, j.b)
	return j.give(v)
}

func (j *job) upper() api.Effect {
	return j.give(alu.Upper(j.i.Imm))
}

func (j *job) load() api.Effect {
	return api.Effect{K: api.ELoad, Pc: j.next, Addr: j.address(), Width: j.width(), Signed: j.i.Op == api.OpLb, D: j.i.D}
}

func (j *job) store() api.Effect {
	return api.Effect{K: api.EStore, Pc: j.next, Addr: j.address(), Width: j.width(), Val: j.b}
}

func (j *job) askew() api.Effect {
	return trap(api.CAlign, j.address())
}

func (j *job) branch() api.Effect {
	if taken, _ := alu.Taken(j.i.Op, j.a, j.b); taken {
		return j.done(j.target())
	}
	return j.done(j.next)
}

func (j *job) jump() api.Effect {
	j.set(j.next)
	return j.done(j.target())
}

func (j *job) jumpByRegister() api.Effect {
	j.set(j.next)
	return j.done(j.address())
}

func (j *job) call() api.Effect {
	return trap(api.CCall, 0)
}

func (j *job) stop() api.Effect {
	return trap(api.CBrk, j.pc)
}

func (j *job) forbidden() api.Effect {
	return trap(api.CPriv, Word(j.i))
}

func (j *job) ask() api.Effect {
	return api.Effect{K: api.EHcall, Pc: j.next}
}

func (j *job) halt() api.Effect {
	return api.Effect{K: api.EHalt, Pc: j.next}
}

func (j *job) forget() api.Effect {
	return api.Effect{K: api.EInv, Pc: j.next}
}

func (j *job) leave() api.Effect {
	pc, _ := j.c.Leave()
	return j.done(pc)
}

func (j *job) readControl() api.Effect {
	v, _ := j.c.Read(j.i.Imm, j.clock)
	return j.give(v)
}

// writeControl asks csr which registers are only read: those alone it refuses here.
func (j *job) writeControl() api.Effect {
	if e := j.c.Write(j.i.Imm, j.a); e != api.OK {
		return trap(api.CIll, Word(j.i))
	}
	return j.done(j.next)
}

// give is all that is to be done, where D has v.
func (j *job) give(v uint32) api.Effect {
	j.set(v)
	return j.done(j.next)
}

func (j *job) set(v uint32) {
	j.r.Set(j.i.D, v)
}

// done is what a job comes to of which nothing is left to others.
func (j *job) done(pc uint32) api.Effect {
	j.r.Jump(pc)
	return api.Effect{K: api.EDone, Pc: pc}
}

// number is the instruction's number as a word.
func (j *job) number() uint32 {
	return uint32(j.i.Imm)
}

func (j *job) address() uint32 {
	return j.a + j.number()
}

// target is as many instructions away as the number says.
func (j *job) target() uint32 {
	return j.pc + wordBytes*j.number()
}

func (j *job) isAskew() bool {
	return j.address()%wordBytes != 0
}

func (j *job) width() int {
	switch j.i.Op {
	case api.OpLw, api.OpSw:
		return wordBytes
	}
	return 1
}

func trap(cause, tval uint32) api.Effect {
	return api.Effect{K: api.ETrap, Cause: cause, Tval: tval}
}
