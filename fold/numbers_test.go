package fold

import (
	"testing"

	"shuttle/api"
)

// The numbers that stand here once more are those of package api.
func TestNumbersOfTheApi(t *testing.T) {
	if kindMark != api.KMark || kindLetter != api.KLetter || kindDigit != api.KDigit {
		t.Error(kindMark, kindLetter, kindDigit)
	}
}
