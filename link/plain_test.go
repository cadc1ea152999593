package link

import (
	"math/big"
	"slices"

	"isochron/api"
)

// plain is the chapter, read a second time.
type plain struct {
	link api.Link
	most int
	l    []api.Parcel
}

// isMessage tells whether event.Check lets m be.
func isMessage(m api.Message) bool {
	return m.Key.Time >= 0 && m.Key.Time <= 1<<62-1 && m.Key.From >= -1 && m.Key.From <= 15 && m.Key.Seq >= 0 && m.Uid >= 0 && m.To >= 0 && m.To <= 15
}

func (p *plain) put(x api.Parcel) api.Errno {
	if !isMessage(x.M) || x.M.Key.From != p.link.From || x.M.To != p.link.To {
		return 1
	}
	if !x.M.Anti && len(p.l) >= p.most {
		return 9
	}
	p.l = append(p.l, x)
	return 0
}

// place is where the parcel stands that n asks for, if there is one.
func (p *plain) place(n int) int {
	if !p.link.Loose {
		return 0
	}
	return int(new(big.Int).Mod(big.NewInt(int64(n)), big.NewInt(int64(len(p.l)))).Int64())
}

func (p *plain) peek(n int) answer {
	if len(p.l) == 0 {
		return answer{e: 6}
	}
	return answer{p: p.l[p.place(n)]}
}

func (p *plain) take(n int) answer {
	a := p.peek(n)
	if a.e == 0 {
		place := p.place(n)
		p.l = slices.Concat(p.l[:place], p.l[place+1:])
	}
	return a
}

func (p *plain) room() int {
	if len(p.l) > p.most {
		return 0
	}
	return p.most - len(p.l)
}

func (p *plain) least() int64 {
	times := []int64{1 << 62}
	for _, x := range p.l {
		times = append(times, x.M.Key.Time)
	}
	return slices.Min(times)
}
