package spec

import (
	"bogie/api"
	"bogie/record"
)

// fact is what a known record says.
type fact interface {
	// key returns the Id of the record.
	key() string
	record() api.Record
}

// known is a known record with its Id.
type known struct {
	api.Record
	id string
}

func (k known) key() string        { return k.id }
func (k known) record() api.Record { return k.Record }

// The kinds of facts; what makes and gives back holds is another fact.
type (
	told      struct{ known }
	corrected struct{ known }
	amended   struct{ known }
	conceded  struct{ known }
	recalled  struct{ known }
	cleared   struct{ known }
	charged   struct{ known }
	payment   struct{ known }
)

// facts returns what the known records of a list say, in order.
func facts(l []api.Record, w api.World) []fact {
	var all []fact
	for _, r := range Known(l, w) {
		all = append(all, factOf(known{r, record.Id(r)}))
	}
	return all
}

func factOf(k known) fact {
	switch k.Kind {
	case api.RecReport:
		return told{k}
	case api.RecCorrect:
		return corrected{k}
	case api.RecRule:
		return amended{k}
	case api.RecConcede:
		return conceded{k}
	case api.RecRecall:
		return recalled{k}
	case api.RecClear:
		return cleared{k}
	case api.RecCost:
		return charged{k}
	case api.RecPay:
		return payment{k}
	}
	return k
}

// collect returns what a function takes from facts, in order.
func collect[T any](l []fact, take func(f fact) (T, bool)) []T {
	var all []T
	for _, f := range l {
		if t, ok := take(f); ok {
			all = append(all, t)
		}
	}
	return all
}
