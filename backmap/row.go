package backmap

// row is of tasks that are still to be done: what was put there last is taken first. So a deep tree needs no deep calls.
type row[T any] struct{ tasks []T }

func (r *row[T]) put(task T) { r.tasks = append(r.tasks, task) }

// take answers false, if there is none left.
func (r *row[T]) take() (T, bool) {
	last := len(r.tasks) - 1
	if last < 0 {
		var none T
		return none, false
	}
	task := r.tasks[last]
	r.tasks = r.tasks[:last]
	return task, true
}
