package disk

import (
	"slices"

	"corbel/api"
)

// blockSize: how many bytes a block has.
const blockSize = 64

// maxName: how many signs a name may have.
const maxName = 24

// file is its bytes, those in the buffer behind those that are sure: it grows at its end alone.
type file struct {
	bytes []byte
	sure  int // how many are
}

// write is one of the buffer: where it stands in its file is told by the writes ahead of it. It knows its file, not its name, so that a new name changes nothing of it.
type write struct {
	file *file
	size int
}

// Good: may it be a name?
func Good(name string) bool {
	if len(name) == 0 || len(name) > maxName || !letter(name[0]) {
		return false
	}
	for i := range len(name) {
		if c := name[i]; !letter(c) && !digit(c) && c != '.' && c != '-' {
			return false
		}
	}
	return true
}

func letter(c byte) bool { return 'a' <= c && c <= 'z' }

func digit(c byte) bool { return '0' <= c && c <= '9' }

// need: the blocks of a file of so many bytes. An empty one has a block, too.
func need(size int) int {
	return size/blockSize + 1
}

// blocks: those that it needs.
func (f *file) blocks() int {
	return need(len(f.bytes))
}

// made: did a call make it?
func (d *Disk) made() bool {
	return d != nil && d.files != nil
}

// ready: is it made, and the power on?
func (d *Disk) ready() api.Errno {
	if !d.made() {
		return api.ErrMade
	}
	if !d.on {
		return api.ErrPower
	}
	return api.OK
}

// find: the file of a name.
func (d *Disk) find(name string) (*file, api.Errno) {
	if err := d.ready(); err != api.OK {
		return nil, err
	}
	f := d.files[name]
	if f == nil {
		return nil, api.ErrNone
	}
	return f, api.OK
}

// begin: an operation is counted; ErrPower, if it is the one that is armed.
func (d *Disk) begin() api.Errno {
	d.ops++
	if d.armed == 0 {
		return api.OK
	}
	d.armed--
	if d.armed > 0 {
		return api.OK
	}
	d.Crash(d.keep)
	return api.ErrPower
}

// drop: a file is gone, if there is one of that name, and its writes leave the buffer.
func (d *Disk) drop(name string) {
	f := d.files[name]
	if f == nil {
		return
	}
	d.buffer = slices.DeleteFunc(d.buffer, func(w write) bool { return w.file == f })
	d.pending -= len(f.bytes) - f.sure
	d.used -= f.blocks()
	delete(d.files, name)
}

// settle: the buffer is empty; of each write, one behind the other, so many of its first bytes as are told become sure, and the others are lost.
func (d *Disk) settle(sure func(write) int) {
	for _, w := range d.buffer {
		w.file.sure += sure(w)
	}
	for _, w := range d.buffer {
		d.cut(w.file)
	}
	d.buffer, d.pending = nil, 0
}

// cut: a file has what is sure of it.
func (d *Disk) cut(f *file) {
	d.used -= f.blocks() - need(f.sure)
	f.bytes = f.bytes[:f.sure]
}
