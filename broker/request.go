package broker

import (
	"conveyor/api"
	"conveyor/plog"
)

// mostFetched is how many bytes a fetch may ask for, so that its answer has room in a frame.
const mostFetched = 3000

// answer does a request, as if none ever waited: its answer.
func (b *Broker) answer(x api.Request) api.Answer {
	a, err := b.do(x)
	if err != nil {
		return refusal(x, err)
	}
	a.Kind, a.Corr = x.Kind, x.Corr
	return a
}

// refusal is the answer to a request that has an error.
func refusal(x api.Request, err error) api.Answer {
	return api.Answer{Kind: x.Kind, Corr: x.Corr, Err: api.Tell(err)}
}

// do does a request: what its kind's answer has of its own.
func (b *Broker) do(x api.Request) (api.Answer, error) {
	switch x.Kind {
	case api.Create:
		return api.Answer{}, b.store.Create(api.Topic{Name: x.Topic, Parts: x.Parts, Compact: x.Compact})
	case api.Drop:
		return api.Answer{}, b.store.Drop(x.Topic)
	case api.Describe:
		return api.Answer{Topics: b.store.Topics()}, nil
	case api.Produce:
		return b.ofLog(x, produce)
	case api.Fetch:
		return b.ofLog(x, fetch)
	case api.Since:
		return b.ofLog(x, since)
	case api.Forget:
		return b.ofLog(x, forget)
	}
	return api.Answer{}, api.ErrArg
}

// ofLog does with the log that a request names what its kind does.
func (b *Broker) ofLog(x api.Request, do func(l *plog.Log, x api.Request) (api.Answer, error)) (api.Answer, error) {
	l, err := b.store.Log(x.Topic, x.Part)
	if err != nil {
		return api.Answer{}, err
	}
	return do(l, x)
}

// produce puts records at the log's end; Sure: they are safe ahead of the answer.
func produce(l *plog.Log, x api.Request) (api.Answer, error) {
	offset, err := l.Add(x.Records)
	if err == nil && x.Sure {
		err = l.Flush()
	}
	return api.Answer{Offset: offset}, err
}

// fetch reads what there is now.
func fetch(l *plog.Log, x api.Request) (api.Answer, error) {
	records, err := l.Read(x.Offset, min(x.Most, mostFetched))
	return api.Answer{Start: l.Start(), End: l.End(), Records: records}, err
}

// since looks for the first record of a time.
func since(l *plog.Log, x api.Request) (api.Answer, error) {
	offset, found := l.Since(x.Time)
	return api.Answer{Offset: offset, Found: found}, nil
}

// forget leaves out what is ahead of an offset.
func forget(l *plog.Log, x api.Request) (api.Answer, error) {
	err := l.Forget(x.Offset)
	return api.Answer{Start: l.Start()}, err
}

// waitsInstead says whether a request waits for more than its answer would have: a fetch alone that is let wait, and told too little.
func waitsInstead(x api.Request, a api.Answer) bool {
	return x.Kind == api.Fetch && a.Err == api.OK && x.Wait > 0 && weight(a.Records) < x.Least
}

// weight is how many bytes the keys and values of records have.
func weight(records []api.Record) int {
	sum := 0
	for _, r := range records {
		sum += len(r.Key) + len(r.Value)
	}
	return sum
}
