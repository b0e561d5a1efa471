package event

import (
	"slices"

	"outlaw/api"
	"outlaw/ident"
	"outlaw/scan"
)

// Check returns the first reason for which e is not valid.
func Check(e api.Event) api.Errno {
	_, err := Bytes(e)
	return err
}

// checkFields leaves out what is in the body, and how long the whole is.
func checkFields(e *api.Event) api.Errno {
	switch {
	case !ident.EventID(e.ID) || !ident.Room(e.Room) || !ident.User(e.Sender):
		return api.ErrID
	case len(e.Type) == 0 || len(e.Type) > api.MostType:
		return api.ErrField
	case !scan.Valid(e.Type):
		return api.ErrText
	case len(e.Key) > api.MostIdent || len(e.Key) > 0 && !e.State:
		return api.ErrField
	case !scan.Valid(e.Key):
		return api.ErrText
	case e.TS < 0 || e.TS > api.MostNumber:
		return api.ErrArg
	}
	if err := checkPrev(e); err != api.OK {
		return err
	}
	if err := checkRedacts(e); err != api.OK {
		return err
	}
	if e.Body.Kind != api.JsonObject {
		return api.ErrKind
	}
	return api.OK
}

func checkPrev(e *api.Event) api.Errno {
	if len(e.Prev) > api.MostPrev {
		return api.ErrLong
	}
	for i, id := range e.Prev {
		switch {
		case !ident.EventID(id):
			return api.ErrID
		case id == e.ID || slices.Contains(e.Prev[:i], id):
			return api.ErrTwice
		}
	}
	return api.OK
}

func checkRedacts(e *api.Event) api.Errno {
	switch redaction := Redaction(*e); {
	case redaction && !ident.EventID(e.Redacts):
		return api.ErrID
	case !redaction && e.Redacts != "":
		return api.ErrField
	}
	return api.OK
}
