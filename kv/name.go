package kv

import (
	"strings"

	"klaxon/api"
)

// blank is what a bucket's name is filled up with in the tree: all names have
// as many bytes there, so that no bucket lies among another one's keys.
const blank = "\x00\x00\x00\x00\x00\x00\x00\x00"

func isBucket(name string) bool {
	return name != "" && len(name) <= api.MaxBucket && strings.Trim(name, "abcdefghijklmnopqrstuvwxyz") == ""
}

func isInner(key string) bool { return len(key) <= api.MaxInner }

// prefix is what the keys of a bucket begin with in the tree (P6.1).
func prefix(bucket string) string { return bucket + blank[len(bucket):] }

// behind is above all keys that begin with a bucket's prefix, and not above
// any other. Its last byte has room for one more: it is a letter, or 0.
func behind(prefix string) string {
	last := len(prefix) - 1
	return prefix[:last] + string(rune(prefix[last]+1))
}
