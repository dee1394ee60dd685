package names

// Pattern tells whether p may be a pattern.
func Pattern(p string) bool {
	name, _ := cutSlash(p)
	if !Name(name) {
		return false
	}
	last := len(name) - 1
	for i := 1; i < last; i++ {
		if name[i] == '*' {
			return false
		}
	}
	// A `*` that stands alone is at the front and at the end, too.
	return name[0] != '*' || name[last] != '*'
}

// Ignored tells whether s is a path and a Pattern of them takes one of its
// names.
func Ignored(patterns []string, s string) bool {
	path := Split(s)
	if len(path) == 0 {
		return false
	}
	for _, p := range patterns {
		if Pattern(p) && takesOne(p, path) {
			return true
		}
	}
	return false
}

func takesOne(p string, path []string) bool {
	part, above := cutSlash(p)
	if above {
		path = path[:len(path)-1]
	}
	for _, name := range path {
		if takes(part, name) {
			return true
		}
	}
	return false
}

// takes tells whether a Pattern without a `/` takes name.
func takes(part, name string) bool {
	last := len(part) - 1
	switch {
	case part[0] == '*':
		return len(name) >= last && name[len(name)-last:] == part[1:]
	case part[last] == '*':
		return len(name) >= last && name[:last] == part[:last]
	}
	return name == part
}

// cutSlash is p without a `/` behind it, and whether there was one.
func cutSlash(p string) (string, bool) {
	last := len(p) - 1
	if last >= 0 && p[last] == '/' {
		return p[:last], true
	}
	return p, false
}
