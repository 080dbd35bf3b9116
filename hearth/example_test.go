package hearth_test

import (
	"fmt"

	"hearth/api"
	"hearth/hearth"
)

// The program of README.md.
func Example() {
	image := []byte{
		api.Set, 0, 'h', 0,
		api.Trap, api.Print, 0, 0,
		api.Set, 0, 7, 0,
		api.Trap, api.Exit, 0, 0,
	}
	k, e := hearth.New(api.Config{Slices: [3]int{2, 4, 8}, Boost: 50}, image)
	if e != api.OK {
		return
	}
	events, e := k.Run(10)
	fmt.Println(events, e)
	fmt.Println(k.Procs())
	memory, e := k.Memory(1)
	fmt.Println(len(memory), e)
	// Output:
	// [{0 1 1 0} {1 1 1 1} {1 3 1 104} {2 1 1 2} {3 1 1 3} {3 4 1 7}] 0
	// [{1 0 6 7 4 1 2 [7 0 0 0 0 0 0 0]}]
	// 64 0
}
