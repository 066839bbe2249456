package emit

import "tableau/api"

func or(w *writer, _ api.Node) {
	w.kid()
	w.fork(api.IUnless, func() { w.put(api.ITrue) }, w.kid)
}

func and(w *writer, _ api.Node) {
	w.kid()
	w.fork(api.IUnless, w.kid, func() { w.put(api.IFalse) })
}

func equal(w *writer, n api.Node) {
	kind := w.rest[0].Kind // the left one's
	w.kids(n)
	w.put(api.IEq, int(kind))
}

func unequal(w *writer, n api.Node) {
	equal(w, n)
	w.put(api.INot)
}

func call(w *writer, n api.Node) {
	w.functions[n.N].write(w, n)
}

func zone(w *writer, _ api.Node) {
	w.kid()
	w.put(api.IZone, int(w.take().N))
}

func is(w *writer, _ api.Node) {
	w.kid()
	w.put(api.IIs, w.texts[w.take().Text])
}

func branch(w *writer, n api.Node) {
	w.kid()
	w.fork(api.IUnless, w.kid, w.third(n))
}

func choose(w *writer, n api.Node) {
	w.kid()
	w.fork(api.IChoose, func() {
		w.put(api.IStore, int(n.N))
		w.kid()
	}, w.third(n))
}

// third is what writes the node's third kid; nil, if it has none.
func (w *writer) third(n api.Node) func() {
	if n.Kids < 3 {
		return nil
	}
	return w.kid
}

func repeat(w *writer, n api.Node) {
	slot := int(n.M)
	w.push(0)
	w.put(api.IStore, slot)
	start := w.size
	w.put(api.ILoad, slot)
	w.push(n.N)
	w.put(api.ILt)
	w.fork(api.IUnless, func() {
		w.kid()
		w.put(api.ILoad, slot)
		w.push(1)
		w.put(api.IAdd)
		w.put(api.IStore, slot)
		w.put(api.IJump, start)
	}, nil)
}

func each(w *writer, n api.Node) {
	list, place, end := int(n.M), int(n.M)+1, 0
	w.kid()
	w.put(api.IStore, list)
	w.push(0)
	w.put(api.IStore, place)
	start := w.size
	w.later(func(x *api.Instr) { x.C = end }, api.IEach, list, place)
	w.put(api.IStore, int(n.N))
	w.kid()
	w.put(api.IJump, start)
	end = w.size
}
