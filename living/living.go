// Package living: of a store the record of each name that lives. It is no layer
// of the document; packages find and index both begin with it.
package living

import (
	"withy/api"
	"withy/store"
)

// Records answers of each name of store.Ids, in their order, the record that
// store.Get answers. The error is store.Check's.
func Records(l []api.Version) ([]api.Record, api.Errno) {
	ids, e := store.Ids(l)
	if e != api.OK {
		return nil, e
	}
	// store.Get goes through all that it is given. What lives of a name hangs on
	// the versions of that name alone, and these are no longer than l in all.
	named := map[string][]api.Version{}
	for _, v := range l {
		named[v.Record.Id] = append(named[v.Record.Id], v)
	}
	all := make([]api.Record, len(ids))
	for i, id := range ids {
		if all[i], e = store.Get(named[id], id); e != api.OK {
			return nil, e
		}
	}
	return all, api.OK
}
