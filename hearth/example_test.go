package hearth_test

import (
	"fmt"

	"hearth/api"
	"hearth/hearth"
)

// The program of README.md.
func Example() {
	image := []byte{
		api.Set, 0, 'h', 0,
		api.Trap, api.Print, 0, 0,
		api.Set, 0, 7, 0,
		api.Trap, api.Exit, 0, 0,
	}
	k, e := hearth.New(api.Config{Slices: [3]int{2, 4, 8}, Boost: 50}, image)
	if e != api.OK {
		return
	}
	events, e := k.Run(10)
	fmt.Println(events, e)
	fmt.Println(k.Procs())
	memory, e := k.Memory(1)
	fmt.Println(len(memory), e)
	// Output:
	// [{0 1 1 0} {1 1 1 1} {1 3 1 104} {2 1 1 2} {3 1 1 3} {3 4 1 7}] 0
	// [{1 0 6 7 4 1 2 [7 0 0 0 0 0 0 0]}]
	// 64 0
}

// The pipe of README.md.
func Example_pipe() {
	image := []byte{
		api.Trap, api.Pipe, 0, 0,
		api.Trap, api.Fork, 0, 0,
		api.Jumpz, 0, 8, 0,
		api.Set, 0, 0, 0,
		api.Set, 1, 20, 0,
		api.Set, 2, 9, 0,
		api.Trap, api.Read, 0, 0,
		api.Trap, api.Exit, 0, 0,
		api.Set, 0, 1, 0,
		api.Set, 1, 0, 0,
		api.Set, 2, 3, 0,
		api.Trap, api.Write, 0, 0,
		api.Trap, api.Exit, 0, 0,
	}
	k, _ := hearth.New(api.Config{Slices: [3]int{8, 8, 8}, Boost: 50}, image)
	events, _ := k.Run(50)
	fmt.Println(events[len(events)-3:])
	// Output:
	// [{12 4 2 3} {13 1 1 7} {13 4 1 3}]
}
