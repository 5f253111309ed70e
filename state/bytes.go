package state

import (
	"slices"

	"pinstripe/api"
	"pinstripe/blocks"
	"pinstripe/giveup"
	"pinstripe/once"
	"pinstripe/tokens"
	"pinstripe/tree"
	"pinstripe/wire"
)

// Bytes of what is written.
const (
	bootsWidth  = 3
	swapsWidth  = 3
	clockWidth  = 6
	nextWidth   = 4
	rowsWidth   = 1 // how many rows the window has
	countWidth  = 2 // how many files, stripes or things there are
	clientWidth = 1
	lifeWidth   = 3
	seqWidth    = 4
	numberWidth = 4
	sizeWidth   = 2
	inoWidth    = 2
)

// file is a file's ino, and its map.
type file struct {
	ino int
	m   *blocks.Map
}

// Encode answers the state's bytes.
func (s *State) Encode() ([]byte, api.Errno) {
	if !s.isMade() {
		return nil, api.ErrDead
	}
	p := &wire.Pen{}
	p.Num(s.boots, bootsWidth)
	p.Num(s.swaps, swapsWidth)
	p.Num(s.clock, clockWidth)
	for _, next := range s.next {
		p.Num(next, nextWidth)
	}
	putAll(p, rowsWidth, s.window.Rows(), putRow)
	s.tree.Write(p)
	s.tokens.Write(p)
	putAll(p, countWidth, s.allFiles(), putFile)
	putAll(p, countWidth, s.Stripes(), putUse)
	return p.Bytes()
}

// Decode answers the state that was encoded.
func Decode(b []byte) (*State, api.Errno) {
	return giveup.Attempt(func() *State { return read(wire.NewEye(b)) })
}

// read reads a state to the end of its bytes, or gives up. What is of the whole is asked when all was read.
func read(e *wire.Eye) *State {
	s := New()
	s.boots = e.Num(bootsWidth)
	s.swaps = e.Num(swapsWidth)
	s.clock = e.Num(clockWidth)
	for client := range s.next {
		s.next[client] = e.Num(nextWidth)
	}
	rows := getAll(e, rowsWidth, getRow)
	s.tree = giveup.Given(tree.Read(e))
	s.tokens = giveup.Given(tokens.Read(e))
	files := getAll(e, countWidth, getFile)
	uses := getAll(e, countWidth, getUse)
	giveup.Pass(e.Fail())
	s.window = giveup.Given(once.Load(rows))
	s.takeFiles(files)
	s.takeStripes(uses)
	giveup.Must(slices.Max(s.next[:]) <= maxNext, api.ErrForm)
	giveup.Pass(e.End())
	return s
}

// takeFiles has these be the files, or gives up, if they are not the tree's, or others are open.
func (s *State) takeFiles(l []file) {
	for _, f := range l {
		s.files[f.ino] = f.m
	}
	giveup.Must(slices.EqualFunc(l, fileInos(s.tree), func(f file, ino int) bool { return f.ino == ino }), api.ErrForm)
	for _, r := range s.tokens.Rows() {
		giveup.Must(s.files[r.Ino] != nil, api.ErrForm)
	}
}

// takeStripes has these be the stripes, or gives up, if they are not just those that the files point into.
func (s *State) takeStripes(l []Use) {
	sizes := map[api.Stripe]int{}
	for i, u := range l {
		giveup.Must(i == 0 || byStripe(l[i-1], u) < 0, api.ErrForm)
		giveup.Must(within(u.Size, 1, maxSize), api.ErrForm)
		s.stripes[u.Stripe] = u
		sizes[u.Stripe] = u.Size
	}
	for _, m := range s.files {
		giveup.Must(!slices.ContainsFunc(m.Ptrs(), func(p api.Ptr) bool { return !isIn(p, sizes) }), api.ErrForm)
		s.count(m, 1)
	}
	s.sweep()
	giveup.Must(len(s.stripes) == len(l), api.ErrForm) // a stripe that may not be is swept too: no pointer into it was read
}

// allFiles answers all files, by ino.
func (s *State) allFiles() []file {
	var l []file
	for ino, m := range s.files {
		l = append(l, file{ino: ino, m: m})
	}
	slices.SortFunc(l, func(a, b file) int { return a.ino - b.ino })
	return l
}

// fileInos answers the inos of a tree's files, rising. They are read out of its bytes: some may stand too deep for a path.
func fileInos(t *tree.Tree) []int {
	p := &wire.Pen{}
	t.Write(p)
	e := wire.NewEye(giveup.Given(p.Bytes()))
	var l []int
	for range e.Num(countWidth) {
		ino := e.Num(inoWidth)
		e.Num(inoWidth) // its directory's
		e.Text(api.MaxName)
		if dir := e.Bool(); !dir {
			l = append(l, ino)
		}
	}
	return l
}

// putRow writes a client's last request.
func putRow(p *wire.Pen, r once.Row) {
	p.Num(r.Client, clientWidth)
	p.Num(r.Life, lifeWidth)
	p.Num(r.Seq, seqWidth)
	p.Raw(r.Reply)
}

// getRow reads a client's last request, whether it may be or not.
func getRow(e *wire.Eye) once.Row {
	var r once.Row
	r.Client = e.Num(clientWidth)
	r.Life = e.Num(lifeWidth)
	r.Seq = e.Num(seqWidth)
	r.Reply = e.Raw(api.MaxBody)
	return r
}

// putFile writes a file.
func putFile(p *wire.Pen, f file) {
	p.Num(f.ino, inoWidth)
	f.m.Write(p)
}

// getFile reads a file, or gives up.
func getFile(e *wire.Eye) file {
	ino := e.Num(inoWidth)
	return file{ino: ino, m: giveup.Given(blocks.Read(e))}
}

// putUse writes a stripe. Its Live is what the maps say.
func putUse(p *wire.Pen, u Use) {
	p.Num(u.Stripe.Client, clientWidth)
	p.Num(u.Stripe.Life, lifeWidth)
	p.Num(u.Stripe.Number, numberWidth)
	p.Num(u.Size, sizeWidth)
	p.Num(u.Born, clockWidth)
}

// getUse reads a stripe, whether it may be or not.
func getUse(e *wire.Eye) Use {
	var u Use
	u.Stripe.Client = e.Num(clientWidth)
	u.Stripe.Life = e.Num(lifeWidth)
	u.Stripe.Number = e.Num(numberWidth)
	u.Size = e.Num(sizeWidth)
	u.Born = e.Num(clockWidth)
	return u
}

// putAll writes how many things there are, and each of them.
func putAll[T any](p *wire.Pen, width int, l []T, put func(*wire.Pen, T)) {
	p.Num(len(l), width)
	for _, x := range l {
		put(p, x)
	}
}

// getAll reads how many things there are, and each of them, or gives up where the eye fails.
func getAll[T any](e *wire.Eye, width int, get func(*wire.Eye) T) []T {
	var l []T
	for range e.Num(width) {
		l = append(l, get(e))
		giveup.Pass(e.Fail())
	}
	return l
}
