package feed

import (
	"lantern/api"
	"lantern/date"
	"lantern/text"
	"lantern/xml"
)

// rss is the feed of a channel.
func rss(channel api.Node) api.Feed {
	var all []api.Entry
	for _, item := range xml.Find(channel, "item") {
		all = append(all, rssEntry(item))
	}
	return api.Feed{
		Title:   shortOf(channel, "title"),
		Link:    shortOf(channel, "link"),
		Entries: firsts(all),
	}
}

func rssEntry(item api.Node) api.Entry {
	e := api.Entry{
		Title: shortOf(item, "title"),
		Link:  shortOf(item, "link"),
		Body:  shortOf(item, "description"),
	}
	e.Time, e.Dated = firstTime(textOf(item, "pubDate"))
	e.Id = Id(firstFull(nameOf(item, "guid"), e.Link), e.Title, e.Body)
	return e
}

// atom is the feed of an element of Atom.
func atom(n api.Node) api.Feed {
	var all []api.Entry
	for _, entry := range xml.Find(n, "entry") {
		all = append(all, atomEntry(entry))
	}
	return api.Feed{
		Title:   shortOf(n, "title"),
		Link:    atomLink(n),
		Entries: firsts(all),
	}
}

func atomEntry(entry api.Node) api.Entry {
	e := api.Entry{
		Title: shortOf(entry, "title"),
		Link:  atomLink(entry),
		Body:  firstFull(shortOf(entry, "summary"), shortOf(entry, "content")),
	}
	e.Time, e.Dated = firstTime(textOf(entry, "updated"), textOf(entry, "published"))
	e.Id = Id(firstFull(nameOf(entry, "id"), e.Link), e.Title, e.Body)
	return e
}

// atomLink is where a feed or an entry itself is to be seen; other kids `link` say what is about it.
func atomLink(n api.Node) string {
	for _, link := range xml.Find(n, "link") {
		if rel, has := xml.Attr(link, "rel"); !has || rel == "alternate" {
			href, _ := xml.Attr(link, "href")
			return Short(href)
		}
	}
	return ""
}

// textOf is the text of a kid.
func textOf(n api.Node, kid string) string {
	kids := xml.Find(n, kid)
	if len(kids) == 0 {
		return ""
	}
	return xml.Text(kids[0])
}

func shortOf(n api.Node, kid string) string {
	return Short(textOf(n, kid))
}

// nameOf is the name that an entry gives itself in a kid: all of it, since two may begin alike.
func nameOf(n api.Node, kid string) string {
	return text.Trim(textOf(n, kid))
}

// firstFull is the first of some texts that is not empty.
func firstFull(texts ...string) string {
	for _, s := range texts {
		if s != "" {
			return s
		}
	}
	return ""
}

// firstTime is the first of some texts that is a time; false: none is.
func firstTime(texts ...string) (int64, bool) {
	for _, s := range texts {
		if t, e := date.Any(s); e == api.OK {
			return t, true
		}
	}
	return 0, false
}
