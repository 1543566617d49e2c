package options

import (
	"testing"

	"mullion/api"
)

// The chapter's examples, one behind the other.
func TestExamples(t *testing.T) {
	p := begun(t)
	p.is("prefix", 1, 1, 1, "C-b")
	p.set(api.ScopeSession, 0, "prefix", "C-a", api.OK)
	p.set(api.ScopeSession, 1, "prefix", "M-x", api.OK)
	p.is("prefix", 1, 0, 0, "M-x").is("prefix", 2, 0, 0, "C-a")
	p.set(api.ScopeSession, 1, "prefix", "C-i", api.ErrValue)
	p.set(api.ScopeSession, 1, "base-index", "10000", api.ErrValue)
	p.set(api.ScopeSession, 1, "base-index", "07", api.ErrValue)
	p.set(api.ScopeSession, 1, "status", "yes", api.ErrValue)
	p.set(api.ScopeWindow, 1, "prefix", "C-a", api.ErrScope)
	p.turn(api.ScopeSession, 1, "status", api.OK).is("status", 1, 0, 0, "off")
	p.turn(api.ScopeSession, 1, "status", api.OK).is("status", 1, 0, 0, "on")
	p.add(api.ScopeSession, 1, "status-left", "!", api.OK).is("status-left", 1, 0, 0, "[#{session_name}]!")
	p.set(api.ScopeWindow, 3, "scroll-keep", "off", api.OK).is("scroll-keep", 1, 3, 7, "off")
	p.look()
}
