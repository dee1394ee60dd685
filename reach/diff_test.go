package reach_test

import (
	"slices"
	"testing"

	"marline/api"
	"marline/reach"
)

func wantDiff(t *testing.T, src reach.Source, wants, haves []string, most int, want []string, wantErrno api.Errno) {
	t.Helper()
	got, errno := reach.Diff(src, wants, haves, most)
	if errno != wantErrno || !slices.Equal(got, want) {
		t.Errorf("Diff(%q, %q, %d) = %q, %d, want %q, %d", wants, haves, most, got, errno, want, wantErrno)
	}
}

func TestDiff(t *testing.T) { // P12.2
	s := newSmall()
	all := sorted(s.three, s.two, s.top, s.sub, s.x, s.y, s.one, s.empty)
	for _, c := range []struct{ wants, haves, want []string }{
		{nil, nil, nil},
		{nil, []string{s.three}, nil},
		{[]string{s.three}, nil, all},
		{[]string{s.three, s.one, s.three}, nil, all},
		{[]string{s.three}, []string{s.three}, nil},
		{[]string{s.three}, []string{s.two}, []string{s.three}},
		{[]string{s.two}, []string{s.one}, sorted(s.two, s.top, s.sub, s.x, s.y)},
		{[]string{s.one}, []string{s.two}, nil},
		{[]string{s.two}, []string{s.sub, s.one}, sorted(s.two, s.top, s.y)},
		{[]string{s.two}, []string{s.top}, sorted(s.two, s.one, s.empty)},
		{[]string{s.two}, []string{s.x, s.x}, sorted(s.two, s.top, s.sub, s.y, s.one, s.empty)},
		{[]string{s.x, s.y}, []string{s.y}, []string{s.x}},
		{[]string{s.one}, []string{s.y}, sorted(s.one, s.empty)},
		{[]string{s.three}, []string{s.torn}, []string{s.three}},
		{[]string{s.two}, []string{s.gone, s.raw, s.one}, sorted(s.two, s.top, s.sub, s.x, s.y)},
		{[]string{s.two}, []string{s.torn, s.gone}, nil},
	} {
		for _, most := range []int{9, 10, api.MaxWalk} {
			wantDiff(t, s.source, c.wants, c.haves, most, c.want, api.OK)
		}
	}
}

// The error of the first closure comes first, then the second one's, then
// what the first one lacks.
func TestDiffThatMayNotBe(t *testing.T) { // P12.2
	s := newSmall()
	for _, c := range []struct {
		wants, haves []string
		most         int
		want         api.Errno
	}{
		{[]string{s.two}, nil, 6, api.ErrLimit},
		{[]string{s.two}, []string{s.two}, 6, api.ErrLimit},
		{[]string{s.two}, []string{s.x}, 6, api.ErrLimit},
		{[]string{s.x}, []string{s.two}, 6, api.ErrLimit},
		{nil, []string{s.two}, 6, api.ErrLimit},
		{[]string{s.torn}, nil, 8, api.ErrLimit},
		{[]string{s.torn}, nil, 9, api.ErrNone},
		{[]string{s.torn}, []string{s.torn}, 9, api.ErrNone},
		{[]string{s.torn}, []string{s.gone}, 9, api.ErrNone},
		{[]string{s.gone}, nil, 1, api.ErrNone},
		{[]string{s.gone}, []string{s.gone}, 1, api.ErrNone},
		{[]string{s.raw}, nil, 1, api.ErrNone},
		{[]string{s.raw}, []string{s.raw}, 1, api.ErrNone},
		{[]string{s.x, s.gone}, []string{s.x}, 2, api.ErrNone},
		{[]string{""}, nil, 1, api.ErrNone},
		{[]string{s.gone}, []string{s.two}, 6, api.ErrLimit},
		{[]string{s.gone}, []string{s.two}, 7, api.ErrNone},
		{[]string{s.gone}, []string{s.gone, s.raw}, 1, api.ErrLimit},
		{[]string{s.gone, s.raw}, nil, 1, api.ErrLimit},
	} {
		wantDiff(t, s.source, c.wants, c.haves, c.most, nil, c.want)
	}
}

// The limit is one of each closure, not of both.
func TestLimitOfEachClosure(t *testing.T) { // P12.2
	s := shelf{}
	var wants, haves []string
	for i := range api.MaxWalk {
		s[made(i)], s[made(10000+i)] = encoded(blobOf("a")), encoded(blobOf("b"))
		wants, haves = append(wants, made(i)), append(haves, made(10000+i))
	}
	wantDiff(t, s.source, wants, haves, api.MaxWalk, wants, api.OK)
	haves[1999] = wants[1000]
	wantDiff(t, s.source, wants, haves, api.MaxWalk, slices.Delete(slices.Clone(wants), 1000, 1001), api.OK)
}

func TestDiffAsksOnce(t *testing.T) { // P12.2
	s := newSmall()
	for _, c := range []struct{ wants, haves []string }{
		{nil, nil}, {[]string{s.three}, nil}, {nil, []string{s.three}}, {[]string{s.three}, []string{s.two}}, {[]string{s.two}, []string{s.three, s.torn}}, {[]string{s.torn}, []string{s.torn, s.raw}}, {[]string{s.gone}, []string{s.one}},
	} {
		told, lacking, _ := reach.Closure(s.source, slices.Concat(c.wants, c.haves), 99)
		src, times := counted(s.shelf)
		reach.Diff(src, c.wants, c.haves, 99)
		wantOnce(t, "Diff", times, slices.Concat(told, lacking))
	}
}

// What a source tells of a hash counts for both closures, though it would
// tell another thing the next time.
func TestDiffOfASourceThatChanges(t *testing.T) { // P12.2
	s := newSmall()
	forgetful := func() reach.Source {
		told := map[string]int{}
		return func(id string) ([]byte, bool) {
			told[id]++
			return s.shelf[id], told[id] == 1 && s.shelf[id] != nil
		}
	}
	wantDiff(t, forgetful(), []string{s.three}, []string{s.two}, 99, []string{s.three}, api.OK)
	wantDiff(t, forgetful(), []string{s.three}, []string{s.three}, 99, nil, api.OK)
	wantDiff(t, forgetful(), []string{s.two}, []string{s.three}, 99, nil, api.OK)
}
