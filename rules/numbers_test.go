// Package rules tests what holds in all layers: numbers, signatures and the program's language.
package rules

import (
	"testing"

	"lantern/api"
)

func TestErrorsNumbers(t *testing.T) {
	errnos := []api.Errno{
		api.OK, api.ErrArg, api.ErrFull, api.ErrLong, api.ErrNone, api.ErrText, api.ErrSame, api.ErrAuth,
		api.ErrDenied, api.ErrDeep, api.ErrMore, api.ErrBad, api.ErrQuota, api.ErrNet,
	}
	for want, e := range errnos {
		if int(e) != want {
			t.Errorf("error %d has the number %d", want, e)
		}
	}
}

func TestLimits(t *testing.T) {
	limits := []struct {
		name      string
		got, want uint64
	}{
		{"MaxBytes", api.MaxBytes, 65536},
		{"MaxHops", api.MaxHops, 5},
		{"MaxDeep", api.MaxDeep, 16},
		{"MaxHeaders", api.MaxHeaders, 64},
		{"MaxLine", api.MaxLine, 4096},
		{"MaxBody", api.MaxBody, 32768},
		{"MaxTenants", api.MaxTenants, 64},
		{"MaxSubs", api.MaxSubs, 64},
		{"MaxEntries", api.MaxEntries, 16},
		{"MaxTime", api.MaxTime, 1099511627776},
		{"MaxCount", api.MaxCount, 9223372036854775807},
		{"Block", api.Block, 64},
	}
	for _, l := range limits {
		if l.got != l.want {
			t.Errorf("%s is %d, want %d", l.name, l.got, l.want)
		}
	}
}

func TestKinds(t *testing.T) {
	values := []int{
		api.ValueNull, api.ValueBool, api.ValueNumber, api.ValueText, api.ValueList, api.ValueObject, api.ValueKinds,
	}
	for want, k := range values {
		if k != want {
			t.Errorf("kind of value %d has the number %d", want, k)
		}
	}
	asks := []int{api.AskAdd, api.AskList, api.AskDrop, api.AskRead, api.AskToken, api.AskAudit, api.AskKinds}
	for i, k := range asks {
		if k != i+1 {
			t.Errorf("kind of ask %d has the number %d", i+1, k)
		}
	}
}
