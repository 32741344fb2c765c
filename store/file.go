package store

import (
	"arbour/api"
	"arbour/chunk"
	"arbour/merkle"
	"iter"
	"slices"
)

// Know keeps a file's manifest: whether it was not there; its chunks are used by it.
func (s *Store) Know(m api.Manifest) (bool, api.Errno) {
	if s == nil {
		return false, api.ErrArg
	}
	if e := merkle.Check(m); e != api.OK {
		return false, e
	}
	return s.know(merkle.File(m), m), api.OK
}

// Manifest is the manifest of a file's digest.
func (s *Store) Manifest(file string) (api.Manifest, bool) {
	if s == nil {
		return api.Manifest{}, false
	}
	m, there := s.files[file]
	return own(m), there
}

// Forget lets a file's manifest go: whether it was there; chunks that nothing uses any more go.
func (s *Store) Forget(file string) bool {
	if s == nil {
		return false
	}
	m, there := s.files[file]
	delete(s.files, file)
	for _, digest := range m.Chunks {
		s.unuse(digest)
	}
	return there
}

// Lacks is the digests of a file's chunks that are not there, each once, in their order.
func (s *Store) Lacks(file string) []string {
	if s == nil {
		return nil
	}
	var l []string
	digests := s.files[file].Chunks
	for _, at := range s.lacking(digests) {
		l = append(l, digests[at])
	}
	return l
}

// File is the bytes of a file: whether its manifest and all its chunks are there, and make as many bytes.
func (s *Store) File(file string) (string, bool) {
	if s == nil {
		return "", false
	}
	m, there := s.files[file]
	if !there {
		return "", false
	}
	var l []string
	for _, digest := range m.Chunks {
		if !s.has(digest) {
			return "", false
		}
		l = append(l, s.chunks[digest].bytes)
	}
	t, ok := chunk.Join(l)
	// A manifest is somebody's word: its chunks may be longer or shorter than it says.
	if !ok || len(t) != m.Size {
		return "", false
	}
	return t, true
}

// Add keeps a file: its digest.
func (s *Store) Add(t string) (string, api.Errno) {
	if s == nil {
		return "", api.ErrArg
	}
	m, e := merkle.Of(t)
	if e != api.OK {
		return "", e
	}
	chunks, places := chunk.List(t), s.lacking(m.Chunks)
	// All of them are held against the quota ahead of the first one, so that there is nothing to take back.
	more := 0
	for _, at := range places {
		more += len(chunks[at])
	}
	if !s.holds(more) {
		return "", api.ErrQuota
	}
	for _, at := range places {
		s.keep(m.Chunks[at], chunks[at])
	}
	file := merkle.File(m)
	s.know(file, m)
	return file, api.OK
}

// Files is the digests of files whose manifests are there, rising.
func (s *Store) Files() iter.Seq[string] {
	// A function that is nil cannot be ranged over: without a store it goes over no files.
	var files map[string]api.Manifest
	if s != nil {
		files = s.files
	}
	return rising(files)
}

// know keeps a manifest that may be, under its digest: whether it was not there.
func (s *Store) know(file string, m api.Manifest) bool {
	if _, there := s.files[file]; there {
		return false
	}
	if s.files == nil {
		s.files = make(map[string]api.Manifest)
	}
	s.files[file] = own(m)
	for _, digest := range m.Chunks {
		s.use(digest)
	}
	return true
}

// lacking is the places of digests whose chunks are not there, of each the first one.
func (s *Store) lacking(digests []string) []int {
	var places []int
	seen := make(map[string]int, len(digests))
	for at, digest := range digests {
		seen[digest]++
		if seen[digest] == 1 && !s.has(digest) {
			places = append(places, at)
		}
	}
	return places
}

// own is a manifest with a list of its own.
func own(m api.Manifest) api.Manifest {
	m.Chunks = slices.Clone(m.Chunks)
	return m
}
