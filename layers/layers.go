// Package layers holds the tests of what the layers are to each other: their calls, and which of them leans on which. It has no code of its own.
package layers
