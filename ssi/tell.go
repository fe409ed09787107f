package ssi

import (
	"maps"
	"slices"

	"keystone/api"
)

// Snapshot is the snapshot of a transaction under way.
func (m *Manager) Snapshot(tx int64) (int64, api.Errno) {
	if e := m.refusal(tx); e != api.OK {
		return 0, e
	}
	return m.active[tx], api.OK
}

// Flags are those of a transaction under way.
func (m *Manager) Flags(tx int64) (api.Flags, api.Errno) {
	if e := m.refusal(tx); e != api.OK {
		return api.Flags{}, e
	}
	return m.flags[tx], api.OK
}

// Active are the transactions that are under way, rising.
func (m *Manager) Active() []int64 {
	if !m.made() {
		return nil
	}
	return slices.Sorted(maps.Keys(m.active))
}

// Now is the last commit number.
func (m *Manager) Now() int64 {
	if !m.made() {
		return 0
	}
	return m.now
}

// Oldest is the least snapshot of those under way; the last commit number, if there are none.
func (m *Manager) Oldest() int64 {
	if !m.made() {
		return 0
	}
	oldest := m.now // no snapshot is above it
	for _, snapshot := range m.active {
		oldest = min(oldest, snapshot)
	}
	return oldest
}

// Tracked is how much it holds.
func (m *Manager) Tracked() api.Tracked {
	if !m.made() {
		return api.Tracked{}
	}
	return api.Tracked{Active: len(m.active), Kept: len(m.kept), Reads: m.reads.Len(), Locks: m.locks.Len()}
}
