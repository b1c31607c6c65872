// Package fresh names what the compiler adds.
package fresh

import "strconv"

// Names returns a function that returns a name for a base, of which used reports false: the base, an underscore and the least number from 1 on for which the function has not returned the name before.
func Names(used func(name string) bool) func(base string) string {
	last := map[string]int{}
	return func(base string) string {
		for {
			last[base]++
			if name := base + "_" + strconv.Itoa(last[base]); !used(name) {
				return name
			}
		}
	}
}
