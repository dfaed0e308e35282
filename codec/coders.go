package codec

import "backflush/api"

// A coder knows the encodings of one kind of values, after the byte of the kind.
type coder struct {
	size  func(v api.Value) int
	write func(b []byte, v api.Value) []byte
	read  func(r *reader) api.Value
}

// coders returns the coder of each kind at its index; there is no kind 0.
func coders() [api.ListV + 1]coder {
	return [...]coder{
		api.IntV:  {size: sizeInt, write: writeInt, read: (*reader).integer},
		api.TextV: {size: sizeText, write: writeText, read: (*reader).text},
		api.ListV: {size: sizeList, write: writeList, read: (*reader).list},
	}
}
