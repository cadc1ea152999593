package queues

import (
	"cmp"
	"slices"

	"isochron/api"
)

// ahead is the order of messages, read off chapter 2.
func ahead(a, b api.Message) bool {
	return cmp.Or(
		cmp.Compare(a.Key.Time, b.Key.Time),
		cmp.Compare(a.Key.From, b.Key.From),
		cmp.Compare(a.Key.Seq, b.Key.Seq),
		cmp.Compare(a.Uid, b.Uid),
	) < 0
}

// plain is the queue, read off the document: a list in no order that each call looks through.
type plain struct {
	l []api.Message
}

func (p *plain) find(from, uid int) int {
	return slices.IndexFunc(p.l, func(m api.Message) bool { return m.Key.From == from && m.Uid == uid })
}

func (p *plain) push(m api.Message) api.Errno {
	if p.find(m.Key.From, m.Uid) >= 0 {
		return 8
	}
	if len(p.l) >= 16384 {
		return 9
	}
	p.l = append(p.l, m)
	return 0
}

// foremost is the place of the first message, or -1.
func (p *plain) foremost() int {
	place := -1
	for i, m := range p.l {
		if place < 0 || ahead(m, p.l[place]) {
			place = i
		}
	}
	return place
}

func (p *plain) at(place int) (api.Message, api.Errno) {
	if place < 0 {
		return api.Message{}, 6
	}
	return p.l[place], 0
}

func (p *plain) take(place int) (api.Message, api.Errno) {
	m, e := p.at(place)
	if e == 0 {
		p.l = slices.Delete(p.l, place, place+1)
	}
	return m, e
}

func (p *plain) all() []api.Message {
	l := slices.Clone(p.l)
	slices.SortFunc(l, func(a, b api.Message) int {
		if ahead(a, b) {
			return -1
		}
		return 1
	})
	return l
}
