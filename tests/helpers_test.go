package tests

import "testing"

// mustAnswer makes the call and fails where it panics; given is what the call is made with.
func mustAnswer(t *testing.T, call func(), given ...any) {
	t.Helper()
	defer func() {
		if r := recover(); r != nil {
			t.Errorf("panic at %#v: %v", given, r)
		}
	}()
	call()
}
