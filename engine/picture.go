package engine

import (
	"bytes"

	"weirgate/api"
	"weirgate/frame"
)

// mostCheckpoints is a number that no checkpoint of an Engine is above: each
// takes a step, of which there are no more (P5).
const mostCheckpoints = 1<<31 - 1

// picture writes what is kept: the job, the number of the checkpoint, what was
// handed over, the states, what was written.
func picture(p *plan, k *kept) []byte {
	b := append(frame.Text(p.text), frame.Num(k.number)...)
	for _, places := range k.places {
		for _, at := range places {
			b = append(b, frame.Num(at)...)
		}
	}
	states := k.sortedStates()
	b = append(b, frame.Num(len(states))...)
	for _, h := range states {
		b = append(b, frame.Num(h.Node)...)
		b = append(b, frame.Text(h.Key)...)
		b = append(b, frame.Num(h.A)...)
		b = append(b, frame.Num(h.B)...)
	}
	for own, one := range p.nodes {
		if one.Kind == api.Sink {
			b = append(b, linesBytes(lines(k.written[own]))...)
		}
	}
	return frame.Seal(b)
}

func linesBytes(l []api.Line) []byte {
	b := frame.Num(len(l))
	for _, line := range l {
		b = append(b, frame.Text(line.Key)...)
		b = append(b, frame.Num(len(line.Nums))...)
		for _, num := range line.Nums {
			b = append(b, frame.Num(num)...)
		}
	}
	return b
}

// readPicture is what is kept, of a picture of the same job.
func readPicture(p *plan, shot []byte) (*kept, error) {
	body, _, err := frame.Open(shot)
	if err != nil {
		return nil, err
	}
	k := newKept(p)
	err = frame.Take(body, func(from *frame.Reader) {
		(&reader{Reader: from, plan: p, most: len(shot)}).read(k)
	})
	// What is of another job, in another order, there twice, a line of no
	// numbers, or behind the end, is not written again.
	if err != nil || !bytes.Equal(picture(p, k), shot) {
		return nil, api.ErrFile
	}
	// Ahead of the first checkpoint there is but one picture.
	if k.number == 0 && !bytes.Equal(picture(p, newKept(p)), shot) {
		return nil, api.ErrFile
	}
	return k, nil
}
