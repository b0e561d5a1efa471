package json

import (
	"outlaw/api"
	"outlaw/scan"
)

// Check returns the first reason for which v is not valid.
func Check(v api.Json) api.Errno {
	if tooDeep(v) {
		return api.ErrDepth
	}
	if tooMany(v) {
		return api.ErrLong
	}
	for _, x := range values(v, items) {
		if e := checkFields(x); e != api.OK {
			return e
		}
	}
	return api.OK
}

// tooDeep looks no deeper than it has to, unlike Depth.
func tooDeep(v api.Json) bool {
	for level, x := range values(v, nested) {
		if level == api.MostDepth && isNesting(x.Kind) {
			return true
		}
	}
	return false
}

// tooMany counts no further than it has to, unlike Count.
func tooMany(v api.Json) bool {
	count := 0
	for range values(v, items) {
		count++
		if count > api.MostNodes {
			return true
		}
	}
	return false
}

// checkFields leaves out what is in the Items.
func checkFields(v *api.Json) api.Errno {
	switch {
	case v.Kind < api.JsonNull || v.Kind > api.JsonObject:
		return api.ErrKind
	case !numberFits(v) || !textFits(v) || !itemsFit(v):
		return api.ErrArg
	case !scan.Valid(v.Text) || !allValid(v.Keys):
		return api.ErrText
	case !allFresh(v.Keys):
		return api.ErrTwice
	}
	return api.OK
}

func numberFits(v *api.Json) bool {
	switch v.Kind {
	case api.JsonBool:
		return v.N == 0 || v.N == 1
	case api.JsonNumber:
		return v.N >= -api.MostNumber && v.N <= api.MostNumber
	}
	return v.N == 0
}

func textFits(v *api.Json) bool {
	return v.Kind == api.JsonText || v.Text == ""
}

func itemsFit(v *api.Json) bool {
	switch v.Kind {
	case api.JsonList:
		return len(v.Keys) == 0
	case api.JsonObject:
		return len(v.Keys) == len(v.Items)
	}
	return len(v.Keys) == 0 && len(v.Items) == 0
}

func allValid(keys []string) bool {
	for _, key := range keys {
		if !scan.Valid(key) {
			return false
		}
	}
	return true
}

func allFresh(keys []string) bool {
	known := map[string]bool{}
	for _, key := range keys {
		if known[key] {
			return false
		}
		known[key] = true
	}
	return true
}
