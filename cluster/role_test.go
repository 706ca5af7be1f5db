package cluster

import (
	"testing"

	"shuttle/api"
)

// The numbers that stand here once more are those of package api.
func TestNumbersOfTheApi(t *testing.T) {
	if badNumber != api.Bad || maxRunes != api.MaxRunes {
		t.Error(badNumber, maxRunes)
	}
	if kindControl != api.KControl || kindFormat != api.KFormat || kindMark != api.KMark || kindSymbol != api.KSymbol {
		t.Error(kindControl, kindFormat, kindMark, kindSymbol)
	}
}
