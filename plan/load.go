package plan

import (
	"dayshift/api"
	"dayshift/job"
)

// Load makes a plan of jobs, a day, and the numbers of the next job and of the next run.
func Load(l []job.State, day, id, run int64) (*Plan, api.Errno) {
	if len(l) > api.MaxActive {
		return nil, api.ErrSize
	}
	if !right(l) {
		return nil, api.ErrArg
	}
	if day < 0 || day > api.MaxDay || !isNext(id) || !isNext(run) || !below(l, id, run) {
		return nil, api.ErrRange
	}
	p := &Plan{jobs: map[number]active{}, day: day, last: number(id - 1), run: run - 1}
	for _, s := range l {
		p.jobs[number(s.Id)] = active{s}
	}
	return p, api.OK
}

// right tells whether all jobs can be, and no number of a job or of a run stands twice.
func right(l []job.State) bool {
	jobs, runs := map[number]struct{}{}, map[int64]struct{}{}
	running := 0
	for _, s := range l {
		if !job.Right(s) {
			return false
		}
		jobs[number(s.Id)] = struct{}{}
		if s.State == api.Run {
			runs[s.Run] = struct{}{}
			running++
		}
	}
	return len(jobs) == len(l) && len(runs) == running
}

// below tells whether all numbers of jobs, and of runs, are ahead of those that come next.
func below(l []job.State, id, run int64) bool {
	for _, s := range l {
		if s.Id >= id || s.Run >= run {
			return false
		}
	}
	return true
}

// isNext tells whether a number can come next: behind the last one there is one that is never given.
func isNext(n int64) bool { return n >= 1 && n <= numbers }
