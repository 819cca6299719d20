package share

import (
	"maps"
	"slices"
	"strings"

	"weirgate/api"
	"weirgate/disk"
)

// once has the files of a picture, each once.
func once(files []string) ([]string, error) {
	told := map[string]struct{}{}
	for _, file := range files {
		told[file] = struct{}{}
		if len(told) > api.MaxItems {
			return nil, api.ErrFull
		}
	}
	own := slices.Sorted(maps.Keys(told))
	if slices.ContainsFunc(own, func(file string) bool { return !disk.IsName(file) }) {
		return nil, api.ErrSyntax
	}
	for i, file := range own {
		// A name may be a piece of a far longer text, which would stay with it.
		own[i] = strings.Clone(file)
	}
	return own, nil
}

// drop takes a picture away, and with it the files that are its own alone.
func (s *Share) drop(picture int) {
	for _, file := range s.pictures[picture] {
		s.counts[file]--
		if s.counts[file] == 0 {
			delete(s.counts, file)
		}
	}
	delete(s.pictures, picture)
}
