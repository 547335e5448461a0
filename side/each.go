package side

import "sync"

// made is what a task has made, with the task's number, since tasks end in any order.
type made[A any] struct {
	at     int
	answer A
}

// each task's answer, in the order of the tasks, by however many workers. What is done must not hang on other tasks, nor write what they read.
func each[T, A any](tasks []T, workers int, do func(T) A) []A {
	numbers, ended := make(chan int), make(chan made[A])
	var working sync.WaitGroup
	for range min(workers, len(tasks)) {
		working.Add(1)
		go func() {
			defer working.Done()
			for at := range numbers {
				ended <- made[A]{at, do(tasks[at])}
			}
		}()
	}
	answers := gather(len(tasks), numbers, ended)
	working.Wait()
	return answers
}

// gather the answers of so many tasks, while their numbers are given out: both in one select, since workers that wait to be rid of an answer take no number. Each answer has its own place: so it does not show which of the two went first.
func gather[A any](many int, numbers chan<- int, ended <-chan made[A]) []A {
	answers := make([]A, many)
	next := numbers
	for given, had := 0, 0; had < many; {
		if given == many {
			// Nothing can be sent to nil: the select only waits for answers then.
			next = nil
		}
		select {
		case next <- given:
			given++
		case m := <-ended:
			answers[m.at] = m.answer
			had++
		}
	}
	close(numbers)
	return answers
}
