package side

import (
	"fmt"
	"slices"
	"strings"
	"sync"
	"sync/atomic"
	"testing"
	"testing/synctest"

	"kilnfield/api"
)

// P121: each answer stands at its task's place, whatever tasks and answers are, by however many; each task is done once.
func TestEach(t *testing.T) {
	for workers := 1; workers <= api.Workers; workers++ {
		for many := range 40 {
			tasks, want := make([]int, many), make([]string, many)
			for i := range tasks {
				tasks[i], want[i] = many-i, fmt.Sprint(many-i)
			}
			var done atomic.Int64
			got := each(tasks, workers, func(n int) string { done.Add(1); return fmt.Sprint(n) })
			if !slices.Equal(got, want) || done.Load() != int64(many) {
				t.Fatalf("%d of %d tasks done by %d: %q", done.Load(), many, workers, got)
			}
		}
	}
	lengths := each([]string{"a", "", "abc"}, 2, func(s string) int { return len(s) })
	if !slices.Equal(lengths, []int{1, 0, 3}) {
		t.Error(lengths)
	}
	parts := each([][]string{{"a", "b"}, nil}, 3, func(l []string) error {
		if len(l) == 0 {
			return api.ErrNone
		}
		return nil
	})
	if !slices.Equal(parts, []error{nil, api.ErrNone}) {
		t.Error(parts)
	}
}

// P121: an answer stands at its task's place also where a task ends only when all behind it have ended.
func TestLastFirst(t *testing.T) {
	const many = api.Workers
	ended := make([]chan bool, many+1)
	for i := range ended {
		ended[i] = make(chan bool)
	}
	close(ended[many])
	tasks := make([]int, many)
	for i := range tasks {
		tasks[i] = i
	}
	got := each(tasks, many, func(n int) int {
		<-ended[n+1]
		close(ended[n])
		return n * n
	})
	for i, n := range got {
		if n != i*i {
			t.Errorf("%v", got)
		}
	}
}

// P121: so many as are asked for work side by side, and no more; when the answers are there, all of them have gone.
func TestWorkers(t *testing.T) {
	for workers := 1; workers <= api.Workers; workers++ {
		// A worker that stays is a deadlock of the bubble.
		synctest.Test(t, func(t *testing.T) {
			var now atomic.Int64
			gate := make(chan bool)
			var call sync.WaitGroup
			call.Go(func() {
				each(make([]int, 3*workers), workers, func(int) int {
					now.Add(1)
					<-gate
					now.Add(-1)
					return 0
				})
				if n := now.Load(); n != 0 {
					t.Errorf("%d are at work still", n)
				}
			})
			// Here all wait: each worker within a task.
			synctest.Wait()
			if n := now.Load(); n != int64(workers) {
				t.Errorf("%d at once, not %d", n, workers)
			}
			close(gate)
			call.Wait()
		})
	}
}

// P1: no tasks, and fewer tasks than workers: the call ends, and nobody stays.
func TestFewTasks(t *testing.T) {
	for many := range 3 {
		synctest.Test(t, func(t *testing.T) {
			got := each(make([]string, many), api.Workers, strings.ToUpper)
			if len(got) != many {
				t.Errorf("%d answers, not %d", len(got), many)
			}
		})
	}
}
