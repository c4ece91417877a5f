package rules

import (
	"lantern/api"
	"lantern/block"
	"lantern/cap"
	"lantern/chunk"
	"lantern/cidr"
	"lantern/date"
	"lantern/due"
	"lantern/entity"
	"lantern/feed"
	"lantern/fetch"
	"lantern/guard"
	"lantern/header"
	"lantern/http"
	"lantern/ip"
	"lantern/json"
	"lantern/kv"
	"lantern/log"
	"lantern/mac"
	"lantern/net"
	"lantern/path"
	"lantern/seal"
	"lantern/serve"
	"lantern/sha"
	"lantern/stack"
	"lantern/state"
	"lantern/text"
	"lantern/tuple"
	"lantern/url"
	"lantern/vault"
	"lantern/world"
	"lantern/xml"
)

// The calls that the chapters list, with their exact signatures: this file compiles as long as they stand.

// Layer 1, text.
var (
	_ func(s string) api.Errno     = text.Check
	_ func(s string) api.Errno     = text.Xml
	_ func(s string) int           = text.Count
	_ func(s string, n int) string = text.Head
	_ func(s string) string        = text.Lower
	_ func(s string) string        = text.Trim
	_ func(s string) []string      = text.Words
	_ func(s string) string        = text.Squeeze
)

// Layer 2, sha.
var (
	_ func(b []byte) [32]byte            = sha.Of
	_ func() *sha.Hash                   = sha.New
	_ func(h *sha.Hash, b []byte)        = (*sha.Hash).Write
	_ func(h *sha.Hash) [32]byte         = (*sha.Hash).Sum
	_ func(h *sha.Hash) int              = (*sha.Hash).Len
	_ func(b []byte) string              = sha.Hex
	_ func(s string) ([]byte, api.Errno) = sha.Unhex
)

// Layer 3, mac.
var (
	_ func(key, b []byte) [32]byte                              = mac.Of
	_ func(a, b []byte) bool                                    = mac.Same
	_ func(secret string) api.Errno                             = mac.Check
	_ func(salt [16]byte, secret string) ([32]byte, api.Errno)  = mac.Store
	_ func(salt [16]byte, secret string, tag [32]byte) bool     = mac.Match
	_ func(key []byte, label string, n int) ([]byte, api.Errno) = mac.Derive
)

// Layer 4, seal.
var (
	_ func(key []byte, nonce [16]byte, label string, b []byte) ([]byte, api.Errno) = seal.Seal
	_ func(key []byte, label string, s []byte) ([]byte, api.Errno)                 = seal.Open
	_ func(n int) (int, api.Errno)                                                 = seal.Size
)

// Layer 5, ip.
var (
	_ func(a api.Addr) api.Errno           = ip.Check
	_ func(s string) (api.Addr, api.Errno) = ip.Parse
	_ func(s string) (api.Addr, api.Errno) = ip.Loose
	_ func(a api.Addr) (string, api.Errno) = ip.Print
	_ func(a api.Addr) api.Addr            = ip.Unmap
	_ func(a, b, c, d byte) api.Addr       = ip.V4
	_ func(a api.Addr) (api.Addr, bool)    = ip.Embeds
)

// Layer 6, cidr.
var (
	_ func(n api.Net) api.Errno                  = cidr.Check
	_ func(s string) (api.Net, api.Errno)        = cidr.Parse
	_ func(n api.Net) (string, api.Errno)        = cidr.Print
	_ func(n api.Net, a api.Addr) bool           = cidr.Has
	_ func(a, b api.Net) bool                    = cidr.Meet
	_ func() []api.Net                           = cidr.Forbidden
	_ func(a api.Addr, deny []api.Net) api.Errno = cidr.Allow
)

// Layer 7, url.
var (
	_ func(s string) (api.Url, api.Errno) = url.Parse
	_ func(u api.Url) (string, api.Errno) = url.Print
	_ func(u api.Url) api.Errno           = url.Check
	_ func(s string) string               = url.Escape
	_ func(s string) (string, api.Errno)  = url.Unescape
)

// Layer 8, path.
var (
	_ func(path string) string                     = path.Dots
	_ func(base, ref api.Url) (api.Url, api.Errno) = path.Resolve
	_ func(u api.Url) (api.Url, api.Errno)         = path.Normal
	_ func(u api.Url) (string, api.Errno)          = path.Origin
	_ func(u api.Url) (int, api.Errno)             = path.Port
)

// Layer 9, header.
var (
	_ func(l []api.Header) api.Errno                        = header.Check
	_ func(l []api.Header) ([]byte, api.Errno)              = header.Print
	_ func(b []byte) (l []api.Header, n int, e api.Errno)   = header.Parse
	_ func(l []api.Header, name string) (string, bool)      = header.Get
	_ func(l []api.Header, name string) []string            = header.All
	_ func(l []api.Header, name, value string) []api.Header = header.Set
	_ func(l []api.Header, names []string) []api.Header     = header.Without
	_ func(s string) bool                                   = header.Token
)

// Layer 10, chunk.
var (
	_ func(pieces [][]byte) ([]byte, api.Errno)        = chunk.Encode
	_ func(b []byte) (body []byte, n int, e api.Errno) = chunk.Decode
	_ func(s string) (int, api.Errno)                  = chunk.Size
)

// Layer 11, http.
var (
	_ func(r api.Request) api.Errno                       = http.CheckRequest
	_ func(r api.Response) api.Errno                      = http.CheckResponse
	_ func(r api.Request) ([]byte, api.Errno)             = http.PrintRequest
	_ func(r api.Response) ([]byte, api.Errno)            = http.PrintResponse
	_ func(b []byte) (r api.Request, n int, e api.Errno)  = http.ParseRequest
	_ func(b []byte) (r api.Response, n int, e api.Errno) = http.ParseResponse
)

// Layer 12, entity.
var (
	_ func(s string) (string, api.Errno) = entity.Escape
	_ func(s string) (string, api.Errno) = entity.Unescape
	_ func(s string) string              = entity.Lines
	_ func(s string) (string, api.Errno) = entity.Value
)

// Layer 13, xml.
var (
	_ func(n api.Node) api.Errno                   = xml.Check
	_ func(n api.Node) (string, api.Errno)         = xml.Print
	_ func(s string) (api.Node, api.Errno)         = xml.Parse
	_ func(n api.Node) string                      = xml.Text
	_ func(n api.Node, name string) []api.Node     = xml.Find
	_ func(n api.Node, name string) (string, bool) = xml.Attr
)

// Layer 14, date.
var (
	_ func(year, month, day int) (int, api.Errno)        = date.Days
	_ func(days int) (year, month, day int, e api.Errno) = date.Civil
	_ func(s string) (int64, api.Errno)                  = date.Rfc3339
	_ func(s string) (int64, api.Errno)                  = date.Rfc822
	_ func(s string) (int64, api.Errno)                  = date.Any
	_ func(t int64) (string, api.Errno)                  = date.Print
)

// Layer 15, feed.
var (
	_ func(n api.Node) (api.Feed, api.Errno)   = feed.Read
	_ func(b []byte) (api.Feed, api.Errno)     = feed.Parse
	_ func(s string) string                    = feed.Short
	_ func(name, title, body string) string    = feed.Id
	_ func(old, fresh []api.Entry) []api.Entry = feed.Merge
)

// Layer 16, json.
var (
	_ func(v api.Value) api.Errno                        = json.Check
	_ func(v api.Value) (string, api.Errno)              = json.Print
	_ func(s string) (api.Value, api.Errno)              = json.Parse
	_ func(v api.Value, name string) (api.Value, bool)   = json.Get
	_ func(v api.Value, name string) (string, api.Errno) = json.Text
	_ func(v api.Value, name string) (int64, api.Errno)  = json.Number
	_ func(a, b api.Value) bool                          = json.Same
)

// Layer 17, block.
var (
	_ func(n int) (*block.File, api.Errno)           = block.New
	_ func(b []byte) (*block.File, api.Errno)        = block.Load
	_ func(f *block.File) int                        = (*block.File).Blocks
	_ func(f *block.File, i int) ([]byte, api.Errno) = (*block.File).Read
	_ func(f *block.File, i int, b []byte) api.Errno = (*block.File).Write
	_ func(f *block.File)                            = (*block.File).Sync
	_ func(f *block.File) int                        = (*block.File).Pending
	_ func(f *block.File, k, t int)                  = (*block.File).Crash
	_ func(f *block.File, k, t int)                  = (*block.File).Fuse
	_ func(f *block.File) []byte                     = (*block.File).Dump
)

// Layer 18, log.
var (
	_ func(b []byte) uint32                        = log.Sum
	_ func(f *block.File) (*log.Log, api.Errno)    = log.Open
	_ func(l *log.Log, b []byte) api.Errno         = (*log.Log).Append
	_ func(l *log.Log, records [][]byte) api.Errno = (*log.Log).Restart
	_ func(l *log.Log) int                         = (*log.Log).Len
	_ func(l *log.Log, i int) ([]byte, bool)       = (*log.Log).Get
	_ func(l *log.Log) int                         = (*log.Log).Room
	_ func(l *log.Log) uint64                      = (*log.Log).Generation
	_ func(b []byte) ([][]byte, uint64, api.Errno) = log.Read
)

// Layer 19, tuple.
var (
	_ func(n uint64) api.Part                = tuple.Num
	_ func(s string) api.Part                = tuple.Text
	_ func(l []api.Part) api.Errno           = tuple.Check
	_ func(l []api.Part) (string, api.Errno) = tuple.Encode
	_ func(s string) ([]api.Part, api.Errno) = tuple.Decode
	_ func(a, b []api.Part) int              = tuple.Compare
	_ func(prefix string) (string, bool)     = tuple.After
)

// Layer 20, kv.
var (
	_ func(l []api.Act) ([]byte, api.Errno)        = kv.Encode
	_ func(b []byte) ([]api.Act, api.Errno)        = kv.Decode
	_ func(f *block.File) (*kv.Store, api.Errno)   = kv.Open
	_ func(s *kv.Store, l []api.Act) api.Errno     = (*kv.Store).Apply
	_ func(s *kv.Store, key string) ([]byte, bool) = (*kv.Store).Get
	_ func(s *kv.Store, prefix string) []api.Pair  = (*kv.Store).Scan
	_ func(s *kv.Store) int                        = (*kv.Store).Len
	_ func(s *kv.Store) uint64                     = (*kv.Store).Generation
)

// Layer 21, cap.
var (
	_ func(f *block.File) (*cap.Store, api.Errno)             = cap.Open
	_ func(s *cap.Store, tenant uint64) cap.Cap               = (*cap.Store).Grant
	_ func(s *cap.Store) []uint64                             = (*cap.Store).Tenants
	_ func(s *cap.Store, l []cap.Write) api.Errno             = (*cap.Store).Apply
	_ func(c cap.Cap) uint64                                  = (cap.Cap).Tenant
	_ func(c cap.Cap, name []api.Part) ([]byte, bool)         = (cap.Cap).Get
	_ func(c cap.Cap, prefix []api.Part) []cap.Item           = (cap.Cap).List
	_ func(c cap.Cap, name []api.Part, data []byte) cap.Write = (cap.Cap).Set
	_ func(c cap.Cap, name []api.Part) cap.Write              = (cap.Cap).Drop
)

// Layer 22, vault.
var (
	_ func(l []api.Account) api.Errno                                                               = vault.Check
	_ func(l []api.Account, tenant uint64, salt [16]byte, secret string) ([]api.Account, api.Errno) = vault.Enroll
	_ func(l []api.Account, tenant uint64, salt [16]byte, secret string) ([]api.Account, api.Errno) = vault.Rotate
	_ func(l []api.Account, tenant uint64) ([]api.Account, api.Errno)                               = vault.Revoke
	_ func(l []api.Account, secret string) (uint64, bool)                                           = vault.Who
	_ func(l []api.Header) (string, bool)                                                           = vault.Bearer
	_ func(key []byte, nonce [16]byte, tenant, sub uint64, user, pass string) ([]byte, api.Errno)   = vault.Lock
	_ func(key []byte, tenant, sub uint64, b []byte) (user, pass string, e api.Errno)               = vault.Unlock
	_ func(user, pass string) (string, api.Errno)                                                   = vault.Basic
)

// Layer 23, guard.
var (
	_ func(host string) (kind int, a api.Addr)                                    = guard.Kind
	_ func(host string) string                                                    = guard.Name
	_ func(u api.Url, answers []api.Addr, deny []api.Net) ([]api.Addr, api.Errno) = guard.Allow
	_ func(port int) bool                                                         = guard.Ports
)

// Layer 24, net.
var (
	_ func(w api.World) api.Errno                                                                         = net.Check
	_ func(w api.World, host string) (api.World, []api.Addr, api.Errno)                                   = net.Lookup
	_ func(w api.World, a api.Addr, port int, host string, request []byte) (api.World, []byte, api.Errno) = net.Dial
	_ func(a, b api.World) bool                                                                           = net.Same
)

// Layer 25, fetch.
var (
	_ func(j api.Job) api.Errno                                                      = fetch.Check
	_ func(u api.Url, origin string, first bool, j api.Job) (api.Request, api.Errno) = fetch.Request
	_ func(w api.World, j api.Job, deny []api.Net) (api.World, api.Got)              = fetch.Fetch
)

// Layer 26, due.
var (
	_ func(l []api.Due) api.Errno                                                         = due.Check
	_ func(l []api.Due, now int64, slots int) ([]api.Due, api.Errno)                      = due.Pick
	_ func(l []api.Due, picked []api.Due, now int64, interval int) ([]api.Due, api.Errno) = due.Done
	_ func(l []api.Due, d api.Due) ([]api.Due, api.Errno)                                 = due.Add
	_ func(l []api.Due, tenant, sub uint64) []api.Due                                     = due.Drop
)

// Layer 27, state.
var (
	_ func(r api.Rules) api.Errno                                                                = state.CheckRules
	_ func(accounts []api.Account) (api.State, api.Errno)                                        = state.New
	_ func(r api.Rules, s api.State, tenant uint64, a api.Ask) (api.State, api.Told)             = state.Do
	_ func(r api.Rules, s api.State) (api.State, []api.Due, api.Errno)                           = state.Clock
	_ func(r api.Rules, s api.State, w api.Worlds, d api.Due) (api.State, api.Worlds, api.Errno) = state.One
	_ func(r api.Rules, s api.State, w api.Worlds) (api.State, api.Worlds, api.Errno)            = state.Tick
	_ func(a, b api.State) bool                                                                  = state.Same
)

// Layer 28, serve.
var (
	_ func(r api.Rules, s api.State, b []byte, nonce [16]byte) (api.State, []byte) = serve.Handle
	_ func(status int, body []byte) []byte                                         = serve.Answer
	_ func(status int) string                                                      = serve.Reason
)

// Layer 29, stack.
var (
	_ func(f *block.File, r api.Rules, accounts []api.Account) (*stack.Stack, api.Errno) = stack.Open
	_ func(x *stack.Stack, b []byte, nonce [16]byte) []byte                              = (*stack.Stack).Handle
	_ func(x *stack.Stack, w api.Worlds) (api.Worlds, api.Errno)                         = (*stack.Stack).Tick
	_ func(x *stack.Stack) api.State                                                     = (*stack.Stack).State
)

// Layer 30, world.
var (
	_ func() *world.Run                   = world.New
	_ func(x *world.Run, s string) string = (*world.Run).Line
	_ func(s string) string               = world.Play
)
