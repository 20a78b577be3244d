package ops_test

import (
	"fmt"

	"quill/api"
	"quill/ops"
)

// What README.md shows.
func Example() {
	op := []api.Part{{Kind: api.Keep, N: 1}, {Kind: api.Delete, N: 1}, {Kind: api.Insert, Text: "e"}}
	fmt.Println(ops.Apply("héllo", op))
	fmt.Println(ops.Normal(op, 5))
	fmt.Println(ops.Normal(op, 1))
	// Output:
	// hello 0
	// [{1 1 } {2 0 e} {3 1 }] 0
	// [] 3
}
