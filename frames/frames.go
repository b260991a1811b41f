// Package frames: compressed frames: see DOC.md.
package frames

import (
	"frames/api"
	"frames/checksum"
	"frames/decode"
	"frames/encode"
)

// Decoder decodes bytes.
type Decoder struct{}

// NewDecoder makes a decoder.
func NewDecoder() *Decoder { return &Decoder{} }

// Decode tells what the bytes say (P5 to P11).
func (d *Decoder) Decode(s string, limit int, slack int) (string, api.Errno) {
	return decode.Decode(s, limit, slack)
}

// Encoder writes frames.
type Encoder struct{}

// NewEncoder makes an encoder.
func NewEncoder() *Encoder { return &Encoder{} }

// Encode writes a frame as the choice has it (P12 to P16).
func (x *Encoder) Encode(src string, ch api.Choice) (string, api.Errno) {
	return encode.Encode(src, ch)
}

// Sum is a checksum under way.
type Sum struct {
	taken checksum.Sum
}

// NewSum makes a checksum of nothing.
func NewSum() *Sum { return &Sum{} }

// Start begins anew (P4).
func (s *Sum) Start() { s.taken.Start() }

// Add takes bytes more (P4).
func (s *Sum) Add(b []byte) { s.taken.Add(b) }

// Value tells the checksum of what was taken (P4).
func (s *Sum) Value() int { return int(s.taken.Value()) }
