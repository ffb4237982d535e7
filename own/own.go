// Package own makes copies that share no list with what they were made of.
package own

import (
	"slices"

	"tarn/api"
)

// Conf is a configuration with lists of its own.
func Conf(c api.Conf) api.Conf {
	c.Mirrors = slices.Clone(c.Mirrors)
	c.Chain = slices.Clone(c.Chain)
	return c
}

// Cmd is a command with lists of its own.
func Cmd(c api.Cmd) api.Cmd {
	c.Conf = Conf(c.Conf)
	return c
}

// State is a state with lists of its own.
func State(s api.State) api.State {
	s.Active = Conf(s.Active)
	s.Next = Conf(s.Next)
	return s
}
