package rank

// away is the place of a variable that doesn't wait.
const away = -1

// queue is the variables that wait, as container/heap orders them. Of what is kept by variables, 0 is none's.
type queue struct {
	scores []int64 // by variables
	places []int   // by variables: where in order they are, so that a heap can be mended from there
	order  []int   // the variables that wait, the one to be asked next first
}

func newQueue(vars int) queue {
	q := queue{scores: make([]int64, vars+1), places: make([]int, vars+1), order: make([]int, vars)}
	q.places[0] = away
	// With equal scores, the variables by their numbers are a heap already.
	for i := range q.order {
		q.order[i] = i + 1
		q.places[i+1] = i
	}
	return q
}

func (q *queue) vars() int {
	return len(q.scores) - 1
}

// add: one variable more, which doesn't wait yet.
func (q *queue) add() int {
	q.scores = append(q.scores, 0)
	q.places = append(q.places, away)
	return q.vars()
}

// Len, Less, Swap, Push and Pop are what container/heap calls.

func (q *queue) Len() int {
	return len(q.order)
}

func (q *queue) Less(i, k int) bool {
	v, w := q.order[i], q.order[k]
	if q.scores[v] != q.scores[w] {
		return q.scores[v] > q.scores[w]
	}
	return v < w
}

func (q *queue) Swap(i, k int) {
	q.order[i], q.order[k] = q.order[k], q.order[i]
	q.places[q.order[i]] = i
	q.places[q.order[k]] = k
}

func (q *queue) Push(x any) {
	// Nothing but a variable is handed in by this package.
	if v, ok := x.(int); ok {
		q.places[v] = len(q.order)
		q.order = append(q.order, v)
	}
}

func (q *queue) Pop() any {
	last := len(q.order) - 1
	v := q.order[last]
	q.order = q.order[:last]
	q.places[v] = away
	return v
}
