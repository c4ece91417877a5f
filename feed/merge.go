package feed

import (
	"strings"

	"lantern/api"
)

// Merge is entries with fresh ones.
func Merge(old, fresh []api.Entry) []api.Entry {
	known, again := spots(old), spots(fresh)
	var all []api.Entry
	for _, e := range fresh {
		if _, is := known[e.Id]; !is {
			all = append(all, e)
		}
	}
	for _, e := range old {
		if spot, is := again[e.Id]; is {
			e = fresh[spot]
		}
		all = append(all, e)
	}
	return firsts(all)
}

// firsts are the first entries, of those with one Id the first, as many as count; all in new memory.
func firsts(l []api.Entry) []api.Entry {
	first := spots(l)
	var told []api.Entry
	for i, e := range l {
		if len(told) == api.MaxEntries {
			break
		}
		if first[e.Id] == i {
			told = append(told, copied(e))
		}
	}
	return told
}

// spots are where the first entry of each Id stands.
func spots(l []api.Entry) map[string]int {
	first := make(map[string]int, len(l))
	for i, e := range l {
		if _, twice := first[e.Id]; !twice {
			first[e.Id] = i
		}
	}
	return first
}

// copied is an entry whose texts are no pieces of others.
func copied(e api.Entry) api.Entry {
	e.Id = strings.Clone(e.Id)
	e.Title = strings.Clone(e.Title)
	e.Link = strings.Clone(e.Link)
	e.Body = strings.Clone(e.Body)
	return e
}
