package buffers

import (
	"fmt"
	"slices"
	"strconv"
	"testing"

	"mullion/api"
)

// pair is buffers and the book beside them: every call is made on both.
type pair struct {
	t       testing.TB
	buffers *Buffers
	book    *book
	faults  int
}

// wrong tells of the first few faults: many would say the same.
func (p *pair) wrong(format string, args ...any) {
	p.t.Helper()
	if p.faults++; p.faults <= 10 {
		p.t.Errorf(format, args...)
	}
}

// begun is new buffers; a test that has failed makes no more of them.
func begun(t testing.TB) *pair {
	t.Helper()
	if t.Failed() {
		t.FailNow()
	}
	b := New()
	if b == nil {
		t.Fatal("New answers nil")
	}
	return &pair{t: t, buffers: b, book: newBook()}
}

// stacked is buffers into which some were laid, one behind the other: of "" an
// automatic one, else one of that name; its text is its number, from 0 on.
func stacked(t testing.TB, names ...string) *pair {
	t.Helper()
	p := begun(t)
	for i, name := range names {
		p.lay(name, strconv.Itoa(i))
	}
	return p
}

// numbered are n names that are a stem and a number.
func numbered(stem string, n int) []string {
	var list []string
	for i := range n {
		list = append(list, stem+strconv.Itoa(i))
	}
	return list
}

// fullOf is buffers with the names ahead, and then so many named ones that there are MaxBuffers.
func fullOf(t testing.TB, ahead ...string) *pair {
	t.Helper()
	p := stacked(t, ahead...)
	for i := 0; len(p.book.named()) < api.MaxBuffers; i++ {
		p.lay("full"+strconv.Itoa(i), "f"+strconv.Itoa(i))
	}
	return p
}

func short(b api.Buffer) string {
	return fmt.Sprintf("{%.40q %.20q of %d bytes}", b.Name, b.Text, len(b.Text))
}

func shortList(list []api.Buffer) string {
	text := fmt.Sprintf("%d buffers:", len(list))
	for _, b := range list {
		text += " " + short(b)
	}
	return text
}

// absent are names of which there is no buffer, unless a test has made one.
var absent = []string{"nothing", "buffer", "buffer00", "buffer01", "Buffer0", "buffer-1", "buffer+1", "buffer99999", " ", "a b", ".", "\x00", "\xff"}

func (p *pair) lookList() *pair {
	p.t.Helper()
	if got, want := p.buffers.List(), p.book.list(); !slices.Equal(got, want) {
		p.wrong("List is %s, and not %s", shortList(got), shortList(want))
	}
	return p
}

// look asks for all that can be asked for.
func (p *pair) look() *pair {
	p.t.Helper()
	p.lookList().get("")
	for _, b := range p.book.list() {
		p.get(b.Name)
	}
	for _, name := range absent {
		p.get(name)
	}
	for _, name := range numbered("buffer", 5) {
		p.get(name)
	}
	return p
}

// forked is the same buffers once more, to be asked what List does not tell.
func (p *pair) forked() *pair {
	b := *p.buffers
	b.stack = slices.Clone(b.stack)
	return &pair{t: p.t, buffers: &b, book: p.book.forked(), faults: p.faults}
}

// probe asks beside what look asks which are automatic, how many are kept, how many names are free, and which number comes next.
func (p *pair) probe() *pair {
	p.t.Helper()
	p.look()
	f := p.forked()
	f.call(call{"Set", "", "next"}).look()
	for range api.MaxBuffers {
		f.call(call{"Set", "", "more"})
	}
	f.look()
	f = p.forked()
	for n := api.MaxBuffers; n > 0; n-- {
		f.limit(n, api.OK).lookList()
	}
	f = p.forked()
	for i := range api.MaxBuffers + 1 {
		f.call(call{"Set", "room" + strconv.Itoa(i), ""})
	}
	f.look()
	p.faults += f.faults
	return p
}

// answered holds what a call answered against the model, and against what is wanted.
func (p *pair) answered(what string, got, model, want api.Errno) *pair {
	p.t.Helper()
	if got != want || model != want {
		p.wrong("%s answers %d, the model %d, and not %d", what, got, model, want)
	}
	return p
}

// lay is Set with OK; the answer's name is the model's.
func (p *pair) lay(name, text string) *pair {
	p.t.Helper()
	_, want := p.book.forked().set(name, text)
	if want != api.OK {
		p.wrong("Set(%.40q) should not have been refused: the model answers %d", name, want)
	}
	return p.call(call{"Set", name, text})
}

// is is Set with OK, and the test itself says the name.
func (p *pair) is(name, text, want string) *pair {
	p.t.Helper()
	got, err := p.buffers.Set(name, text)
	model, _ := p.book.set(name, text)
	if got != want || model != want || err != api.OK {
		p.wrong("Set(%.40q, %.20q) is %q, %d, the model says %q, and not %q", name, text, got, err, model, want)
	}
	return p
}

func (p *pair) refuse(name, text string, want api.Errno) *pair {
	p.t.Helper()
	got, err := p.buffers.Set(name, text)
	_, model := p.book.set(name, text)
	if got != "" {
		p.wrong("Set(%.40q) is refused, and answers the name %.40q", name, got)
	}
	return p.answered(fmt.Sprintf("Set(%.40q, %d bytes)", name, len(text)), err, model, want)
}

func (p *pair) get(name string) *pair {
	p.t.Helper()
	got, err := p.buffers.Get(name)
	want, model := p.book.get(name)
	if got != want || err != model {
		p.wrong("Get(%.40q) is %s, %d, and not %s, %d", name, short(got), err, short(want), model)
	}
	return p
}

// got asks for a buffer that the test itself says; of no name: there is none.
func (p *pair) got(name, wantName, wantText string) *pair {
	p.t.Helper()
	want, wantErr := api.Buffer{Name: wantName, Text: wantText}, api.OK
	if wantName == "" {
		wantErr = api.ErrBuffer
	}
	if got, err := p.buffers.Get(name); got != want || err != wantErr {
		p.wrong("Get(%.40q) is %s, %d, and not %s, %d", name, short(got), err, short(want), wantErr)
	}
	return p
}

func (p *pair) del(name string, want api.Errno) *pair {
	p.t.Helper()
	return p.answered(fmt.Sprintf("Delete(%.40q)", name), p.buffers.Delete(name), p.book.del(name), want)
}

func (p *pair) rename(name, to string, want api.Errno) *pair {
	p.t.Helper()
	return p.answered(fmt.Sprintf("Rename(%.40q, %.40q)", name, to), p.buffers.Rename(name, to), p.book.rename(name, to), want)
}

func (p *pair) limit(n int, want api.Errno) *pair {
	p.t.Helper()
	return p.answered(fmt.Sprintf("Limit(%d)", n), p.buffers.Limit(n), p.book.setLimit(n), want)
}

// names is what List tells, as the test itself says: the newest first.
func (p *pair) names(want ...string) *pair {
	p.t.Helper()
	var got []string
	for _, b := range p.buffers.List() {
		got = append(got, b.Name)
	}
	if !slices.Equal(got, want) {
		p.wrong("List tells %q, and not %q", got, want)
	}
	return p.look()
}

// call is a call that changes something: which, and its texts (of Limit the number).
type call struct{ verb, name, text string }

func (c call) String() string {
	return fmt.Sprintf("%s(%.40q, %.40q of %d bytes)", c.verb, c.name, c.text, len(c.text))
}

func (c call) on(b *Buffers) (string, api.Errno) {
	switch c.verb {
	case "Set":
		return b.Set(c.name, c.text)
	case "Delete":
		return "", b.Delete(c.name)
	case "Rename":
		return "", b.Rename(c.name, c.text)
	}
	n, _ := strconv.Atoi(c.text)
	return "", b.Limit(n)
}

func (c call) onBook(b *book) (string, api.Errno) {
	switch c.verb {
	case "Set":
		return b.set(c.name, c.text)
	case "Delete":
		return "", b.del(c.name)
	case "Rename":
		return "", b.rename(c.name, c.text)
	}
	n, _ := strconv.Atoi(c.text)
	return "", b.setLimit(n)
}

// call makes it on both.
func (p *pair) call(c call) *pair {
	p.t.Helper()
	p.made(c)
	return p
}

// made tells too what it answered.
func (p *pair) made(c call) api.Errno {
	p.t.Helper()
	got, err := c.on(p.buffers)
	want, model := c.onBook(p.book)
	if got != want || err != model {
		p.wrong("%v is %.40q, %d, and not %.40q, %d", c, got, err, want, model)
	}
	return err
}
