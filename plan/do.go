package plan

import (
	"arbour/api"
	"arbour/image"
	"arbour/name"
	"slices"
	"strings"
)

// Do is what stands there behind a step; false: it may not be done.
func Do(l []api.File, s api.Step) ([]api.File, bool) {
	own := slices.Clone(l)
	if !may(own, s) {
		return own, false
	}
	dir := s.Kind == api.StepRmdir || s.Kind == api.StepMkdir
	if i := find(own, place{s.Path, dir}); i >= 0 {
		own = slices.Delete(own, i, i+1)
	}
	if s.Kind == api.StepMkdir || s.Kind == api.StepPut {
		own = append(own, api.File{Path: s.Path, Dir: dir, Digest: s.Digest})
	}
	slices.SortStableFunc(own, image.Compare)
	return own, true
}

// may tells whether a step may be done.
func may(l []api.File, s api.Step) bool {
	file, dir := place{s.Path, false}, place{s.Path, true}
	switch s.Kind {
	case api.StepRemove:
		return has(l, file) && placed(l, s.Path)
	case api.StepRmdir:
		return has(l, dir) && placed(l, s.Path) && !full(l, s.Path)
	case api.StepMkdir:
		if has(l, file) {
			return false
		}
		fallthrough
	case api.StepPut:
		return !has(l, dir) && placed(l, s.Path)
	}
	return false
}

// placed tells whether a path may be, and its folder is there.
func placed(l []api.File, path string) bool {
	if !name.Path(path) {
		return false
	}
	above, _ := name.Split(path)
	return above == "" || has(l, place{above, true})
}

// full tells whether something stands below a folder, however deep.
func full(l []api.File, path string) bool {
	ahead := path + "/"
	return slices.ContainsFunc(l, func(f api.File) bool { return strings.HasPrefix(f.Path, ahead) })
}

// has tells whether a place has something.
func has(l []api.File, p place) bool { return find(l, p) >= 0 }

// find is where in a list a place's file or folder is; -1: it has none.
func find(l []api.File, p place) int {
	return slices.IndexFunc(l, func(f api.File) bool { return placeOf(f) == p })
}
