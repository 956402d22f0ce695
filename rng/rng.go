// Package rng computes a splittable sequence of random numbers from a seed.
package rng

import (
	"assayer/api"
)

const (
	firstGamma = 0x9e3779b97f4a7c15
	mixFactor1 = 0xbf58476d1ce4e5b9
	mixFactor2 = 0x94d049bb133111eb
	maxBound   = 1<<31 - 1
)

// New returns the seed of a number.
func New(n int) api.Seed {
	return api.Seed{State: uint64(n), Gamma: firstGamma}
}

// Next returns a number of 64 bits and the seed that follows.
func Next(s api.Seed) (uint64, api.Seed) {
	s.State += s.Gamma
	return mix(s.State), s
}

// Split returns the seed that follows and a second one, made of the two
// numbers that were passed over.
func Split(s api.Seed) (api.Seed, api.Seed) {
	state, s := Next(s)
	gamma, s := Next(s)
	// An odd gamma lets the state of the new seed run through all 2^64 numbers.
	return s, api.Seed{State: state, Gamma: gamma | 1}
}

// Below returns a number from 0 to n - 1 and the seed that follows.
func Below(s api.Seed, n int) (int, api.Seed, error) {
	if n < 1 || n > maxBound {
		return 0, api.Seed{}, api.ErrRange
	}
	x, s := Next(s)
	// n has at most 31 bits, so the product with 32 bits does not overflow.
	product := (x >> 32) * uint64(n)
	return int(product >> 32), s, nil
}

func mix(z uint64) uint64 {
	z = (z ^ z>>30) * mixFactor1
	z = (z ^ z>>27) * mixFactor2
	return z ^ z>>31
}
