// Package queues holds the tests that the queues of messages have in common; it has no code of its own.
package queues
