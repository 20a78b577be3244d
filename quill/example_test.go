package quill_test

import (
	"fmt"

	"quill/quill"
)

// What README.md shows.
func Example() {
	s, e := quill.New("ab", 2)
	fmt.Println(e, s.Join(0), s.Join(1))

	fmt.Println(s.Edit(0, 1, 0, "X"))
	fmt.Println(s.Client(0))
	fmt.Println(s.Edit(1, 1, 1, "Y"))

	fmt.Println(s.Up(1), s.Up(0))
	fmt.Println(s.Server())

	fmt.Println(s.Down(0))
	fmt.Println(s.Client(0))
	fmt.Println(s.Down(0))
	fmt.Println(s.Client(0))
	fmt.Println(s.Down(0))
	// Output:
	// 0 0 0
	// 0
	// aXb 0 2 0
	// 0
	// 0 0
	// aYX [{1 [{1 1 } {2 0 Y} {3 1 }]} {0 [{1 2 } {2 0 X}]}]
	// 0
	// aYX 1 2 0
	// 0
	// aYX 2 1 0
	// 6
}
