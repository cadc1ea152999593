// Package queues holds the tests that the queues of messages have in common, changed alive or not; it has no code of its own.
package queues
