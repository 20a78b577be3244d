package ops_test

import (
	"fmt"

	"quill/api"
	"quill/ops"
)

// What README.md shows.
func Example() {
	op := []api.Part{{Kind: api.Keep, N: 1}, {Kind: api.Delete, N: 1}, {Kind: api.Insert, Text: "e"}}
	fmt.Println(ops.Apply("héllo", op))
	fmt.Println(ops.Normal(op, 5))
	fmt.Println(ops.Normal(op, 1))
	fmt.Println(ops.Invert(op, "héllo"))

	other := []api.Part{{Kind: api.Keep, N: 1}, {Kind: api.Insert, Text: "a"}}
	fmt.Println(ops.Compose(op, other, 5))
	fmt.Println(ops.Transform(op, other, 5))
	// Output:
	// hello 0
	// [{1 1 } {2 0 e} {3 1 }] 0
	// [] 3
	// [{1 1 } {2 0 é} {3 1 }] 0
	// [{1 1 } {2 0 ae} {3 1 }] 0
	// [{1 1 } {2 0 e} {1 1 } {3 1 }] [{1 2 } {2 0 a}] 0
}
