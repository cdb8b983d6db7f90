package disk

// file is the bytes of a file, in two parts, so that what a crash loses takes no memory from then on.
type file struct {
	safe   []byte
	fresh  []byte // those after the safe ones
	synced bool   // at least once, also without any bytes
}

func (f *file) size() int {
	return len(f.safe) + len(f.fresh)
}

// lasts reports whether a crash leaves the file there, whatever it loses.
func (f *file) lasts() bool {
	return f.synced || len(f.safe) > 0
}

func (f *file) sync() {
	f.safe, f.fresh = append(f.safe, f.fresh...), nil
	f.synced = true
}

// crash makes as many of the fresh bytes safe as part says, and returns how many it loses.
func (f *file) crash(part int) int {
	keeps := max(part, 0) % (len(f.fresh) + 1)
	loses := len(f.fresh) - keeps
	f.safe, f.fresh = append(f.safe, f.fresh[:keeps]...), nil
	return loses
}
