package fsim

// Crash lets it fall: of what is pending the first keep changes are made, and
// of the next one, if it writes a file, the first torn bytes.
func (f *FS) Crash(keep, torn int) {
	if f.down {
		return
	}
	kept := min(max(keep, 0), len(f.pending))
	lost := f.pending[kept:]
	f.pending = f.pending[:kept]
	if len(lost) > 0 && tears(lost[0], torn) {
		part := lost[0]
		part.file.Data = part.file.Data[:torn]
		f.pending = append(f.pending, part)
	}
	f.settle()
	f.here = f.durable.clone()
	f.down = true
}

// tears tells whether c writes a file that is shorter if it is cut behind torn
// bytes.
func tears(c change, torn int) bool {
	return c.gone == "" && torn >= 0 && torn < len(c.file.Data)
}

// Reboot lets it run again.
func (f *FS) Reboot() { f.down = false }
