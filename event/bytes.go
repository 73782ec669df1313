package event

import "sinnet/api"

// What a field counts for in an event's byte; Thread counts for itself.
const (
	kindUnit = 4
	objUnit  = 32
	failUnit = 128
)

// Print: events as bytes.
func Print(list []api.Event) string {
	out := make([]byte, len(list))
	for i, e := range list {
		if !Right(e) {
			return ""
		}
		out[i] = toByte(e)
	}
	return string(out)
}

// Read: and back.
func Read(s string) ([]api.Event, api.Errno) {
	list := make([]api.Event, len(s))
	for i := range len(s) {
		list[i] = fromByte(s[i])
		if !Right(list[i]) {
			return nil, api.ErrForm
		}
	}
	return list, api.OK
}

// toByte: the byte of an event that may be.
func toByte(e api.Event) byte {
	sum := e.Thread + kindUnit*e.Kind + objUnit*e.Obj
	if e.Fail {
		sum += failUnit
	}
	return byte(sum)
}

// fromByte: the one event that could have this byte, whether it may be or not.
func fromByte(b byte) api.Event {
	n := int(b)
	return api.Event{
		Thread: n % kindUnit,
		Kind:   n % objUnit / kindUnit,
		Obj:    n % failUnit / objUnit,
		Fail:   n >= failUnit,
	}
}
