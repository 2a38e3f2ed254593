package check

import (
	"cmp"
	"slices"

	"odometer/api"
	"odometer/label"
)

// bucket is a bucket's bound (inf: it is above all numbers), and its value.
type bucket struct {
	bound int64
	inf   bool
	value int64
}

// together tells whether the samples of a histogram of a metric hold together.
func together(metric string, l []sample) api.Errno {
	sets, e := gather(metric, l)
	if e != api.OK {
		return e
	}
	for _, set := range sets {
		rise(set)
		if !whole(set) {
			return api.ErrBucket
		}
	}
	for _, x := range l {
		if x.part != partCount {
			continue
		}
		if set := sets[x.Name]; len(set) > 0 && set[len(set)-1].value != x.Value {
			return api.ErrBucket
		}
	}
	return api.OK
}

// gather are the buckets of each set. A set stands under the name that the sample of the part _count with just its labels has.
func gather(metric string, l []sample) (map[string][]bucket, api.Errno) {
	sets := make(map[string][]bucket)
	for _, x := range l {
		if x.part != partBucket {
			continue
		}
		b, others, e := bucketOf(x)
		if e != api.OK {
			return nil, e
		}
		name, e := label.Name(metric+partCount, others...)
		if e != api.OK {
			return nil, e
		}
		sets[name] = append(sets[name], b)
	}
	return sets, api.OK
}

// bucketOf is the bucket that a sample is, and its labels but le.
func bucketOf(x sample) (bucket, []api.Label, api.Errno) {
	i := slices.IndexFunc(x.labels, func(l api.Label) bool { return l.Name == "le" })
	if i < 0 {
		return bucket{}, nil, api.ErrBucket
	}
	bound, inf, e := Bound(x.labels[i].Value)
	if e != api.OK {
		return bucket{}, nil, e
	}
	return bucket{bound, inf, x.Value}, slices.Concat(x.labels[:i], x.labels[i+1:]), api.OK
}

// rise puts a set's buckets in the order of their bounds.
func rise(set []bucket) {
	slices.SortFunc(set, func(a, b bucket) int {
		switch {
		case a.inf == b.inf:
			return cmp.Compare(a.bound, b.bound)
		case a.inf:
			return 1
		}
		return -1
	})
}

// whole: are the bounds of a set, by rising ones, all unlike, do its values never fall, and is +Inf its last bound?
func whole(set []bucket) bool {
	for i := 1; i < len(set); i++ {
		ahead, b := set[i-1], set[i]
		if ahead.bound == b.bound && ahead.inf == b.inf || b.value < ahead.value {
			return false
		}
	}
	return set[len(set)-1].inf
}
