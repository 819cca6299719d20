// Package faces holds each package against the calls that its chapter lists:
// it does not build if one of them is gone, or has become another.
package faces

import (
	"testing"

	"weirgate/api"
	"weirgate/audit"
	"weirgate/crew"
	"weirgate/den"
	"weirgate/disk"
	"weirgate/engine"
	"weirgate/expr"
	"weirgate/frame"
	"weirgate/gate"
	"weirgate/group"
	"weirgate/job"
	"weirgate/keep"
	"weirgate/keyed"
	"weirgate/lsm"
	"weirgate/plain"
	"weirgate/run"
	"weirgate/share"
	"weirgate/sink"
	"weirgate/spread"
	"weirgate/table"
	"weirgate/window"
)

// 01 group
var (
	_ func(string) int                   = group.Of
	_ func(int, int) (int, int, error)   = group.Range
	_ func(int, int) (int, error)        = group.Owner
	_ func(int, int) ([]api.Move, error) = group.Moves
	_ func(string, int) (int, error)     = group.Split
)

// 02 expr
var (
	_ func(string) (int, error)           = expr.Check
	_ func(string) (string, error)        = expr.Print
	_ func(string, int, int) (int, error) = expr.Eval
)

// 03 job
var (
	_ func([]api.Node) error                = job.Check
	_ func(string) ([]api.Node, int, error) = job.Parse
	_ func([]api.Node) (string, error)      = job.Print
	_ func([]api.Node) ([][]int, error)     = job.Uses
	_ func([]api.Node) ([]int, error)       = job.Sources
	_ func([]api.Node) ([]int, error)       = job.Sinks
)

// 04 den
var (
	_ func(api.Node, api.Held, bool, api.Record, int) ([]api.Record, api.Held, bool) = den.Apply

	_ func([]api.Node, [][]api.Record) ([][]api.Line, error) = den.All
	_ func([]api.Line, []api.Line) bool                      = den.Prefix
)

// 05 frame
var (
	_ func(int) []byte                   = frame.Num
	_ func(string) []byte                = frame.Text
	_ func([]api.Record) ([]byte, error) = frame.Records
	_ func([]byte) ([]api.Record, error) = frame.ReadRecords
	_ func([]api.Held) ([]byte, error)   = frame.Helds
	_ func([]byte) ([]api.Held, error)   = frame.ReadHelds
	_ func([]byte) []byte                = frame.Seal
	_ func([]byte) ([]byte, int, error)  = frame.Open
)

// 06 disk
var (
	_ func() *disk.Disk                        = disk.New
	_ func(*disk.Disk, string, []byte) error   = (*disk.Disk).Write
	_ func(*disk.Disk) error                   = (*disk.Disk).Sync
	_ func(*disk.Disk, string, string) error   = (*disk.Disk).Rename
	_ func(*disk.Disk, string) error           = (*disk.Disk).Remove
	_ func(*disk.Disk, string) ([]byte, error) = (*disk.Disk).Read
	_ func(*disk.Disk) []string                = (*disk.Disk).Names
	_ func(*disk.Disk, int)                    = (*disk.Disk).Crash
	_ func(*disk.Disk, int)                    = (*disk.Disk).Fail
	_ func(*disk.Disk) int                     = (*disk.Disk).Steps
)

// 07 table
var (
	_ func([]api.Entry) ([]byte, error)                 = table.Build
	_ func([]byte) ([]api.Entry, error)                 = table.Read
	_ func([]byte, string) (api.Entry, error)           = table.Get
	_ func([]byte, string, string) ([]api.Entry, error) = table.Scan
	_ func([][]byte, bool) ([]byte, error)              = table.Merge
)

// 08 lsm
var (
	_ func(int) (*lsm.Store, error)                = lsm.New
	_ func([][]byte, int) (*lsm.Store, error)      = lsm.Open
	_ func(*lsm.Store, string, string) error       = (*lsm.Store).Put
	_ func(*lsm.Store, string) error               = (*lsm.Store).Del
	_ func(*lsm.Store, string) (string, error)     = (*lsm.Store).Get
	_ func(*lsm.Store, string, string) []api.Entry = (*lsm.Store).Scan
	_ func(*lsm.Store) error                       = (*lsm.Store).Flush
	_ func(*lsm.Store) error                       = (*lsm.Store).Compact
	_ func(*lsm.Store) [][]byte                    = (*lsm.Store).Tables
	_ func(*lsm.Store) int                         = (*lsm.Store).Fresh
)

// 09 share
var (
	_ func() *share.Share                     = share.New
	_ func(*share.Share, int, []string) error = (*share.Share).Take
	_ func(*share.Share, int) error           = (*share.Share).Drop
	_ func(*share.Share, string) int          = (*share.Share).Count
	_ func(*share.Share) []string             = (*share.Share).Live
	_ func(*share.Share) []int                = (*share.Share).Pictures
	_ func(*share.Share, int) []int           = (*share.Share).Keep
)

// 10 keyed
var (
	_ func() *keyed.Keyed                               = keyed.New
	_ func(*keyed.Keyed, int, string) (api.Held, error) = (*keyed.Keyed).Get
	_ func(*keyed.Keyed, api.Held) error                = (*keyed.Keyed).Put
	_ func(*keyed.Keyed, int, string) error             = (*keyed.Keyed).Del
	_ func(*keyed.Keyed) []api.Held                     = (*keyed.Keyed).All
	_ func(*keyed.Keyed, int, int) ([]byte, error)      = (*keyed.Keyed).Export
	_ func(*keyed.Keyed, []byte, int, int) error        = (*keyed.Keyed).Import
	_ func([][]byte) ([]byte, error)                    = keyed.Whole
)

// 11 gate
var (
	_ func(int) (*gate.Gate, error)            = gate.New
	_ func(*gate.Gate, int, api.Record) error  = (*gate.Gate).Push
	_ func(*gate.Gate, int, int) error         = (*gate.Gate).Bar
	_ func(*gate.Gate) (api.Record, int, bool) = (*gate.Gate).Next
	_ func(*gate.Gate) (int, bool)             = (*gate.Gate).Bound
	_ func(*gate.Gate) int                     = (*gate.Gate).Waiting
	_ func(*gate.Gate, int) (bool, error)      = (*gate.Gate).Blocked
)

// 12 engine
var (
	_ func([]api.Node, [][]api.Record, int) (*engine.Engine, error) = engine.New

	_ func(*engine.Engine) int           = (*engine.Engine).Enabled
	_ func(*engine.Engine, int) bool     = (*engine.Engine).Step
	_ func(*engine.Engine) (int, error)  = (*engine.Engine).Trigger
	_ func(*engine.Engine) []int         = (*engine.Engine).Done
	_ func(*engine.Engine) [][]api.Line  = (*engine.Engine).Written
	_ func(*engine.Engine) int           = (*engine.Engine).Lag
	_ func(*engine.Engine, int) error    = (*engine.Engine).Crash
	_ func(*engine.Engine) []api.Held    = (*engine.Engine).States
	_ func(*engine.Engine) ([]byte, int) = (*engine.Engine).Picture

	_ func([]api.Node, [][]api.Record, []byte, int) (*engine.Engine, error) = engine.Restore
)

// 13 sink
var (
	_ func() *sink.Sink                  = sink.New
	_ func(*sink.Sink, api.Record) error = (*sink.Sink).Add
	_ func(*sink.Sink, int) error        = (*sink.Sink).Seal
	_ func(*sink.Sink, int) (int, error) = (*sink.Sink).Commit
	_ func(*sink.Sink) int               = (*sink.Sink).Abort
	_ func(*sink.Sink) []api.Record      = (*sink.Sink).Written
	_ func(*sink.Sink) []int             = (*sink.Sink).Sealed
)

// 14 keep
var (
	_ func(*disk.Disk, int, []byte) error   = keep.Save
	_ func(*disk.Disk) (int, []byte, error) = keep.Latest
	_ func(*disk.Disk) []int                = keep.List
	_ func(*disk.Disk, int) error           = keep.Clean
)

// 15 crew
var (
	_ func([]api.Node, [][]api.Record, int) ([][]api.Line, error) = crew.Run
	_ func([]api.Node, [][]api.Record, int) ([]int, error)        = crew.Count
)

// 16 window
var (
	_ func([]api.Record, int, int) ([]api.Pane, error)      = window.Tumble
	_ func([]api.Record, int, int, int) ([]api.Pane, error) = window.Slide
	_ func([]api.Record, int) ([]api.Pane, error)           = window.Session
	_ func([][]api.Record, int) ([]int, error)              = window.Marks
)

// 17 spread
var (
	_ func([]string, int) ([][]string, error)   = spread.Even
	_ func([][]string, int) ([][]string, error) = spread.Again
	_ func([][]string, int) ([][]string, error) = spread.Every
	_ func([]int, int) ([]int, error)           = spread.Least
)

// 18 audit
var (
	_ func([]api.Line, []api.Line) (int, string, int, error) = audit.Judge
	_ func([]api.Line) error                                 = audit.Check
	_ func([]api.Line, []api.Line) ([]api.Line, error)       = audit.Merge
	_ func([]api.Line, []api.Line) (int, error)              = audit.Less
)

// 19 run
var _ func(string) string = run.Run

// wrapped is an error that stands around another one, as P3 lets it.
type wrapped struct{ inner error }

func (w wrapped) Error() string { return "wrapped: " + w.inner.Error() }

func (w wrapped) Unwrap() error { return w.inner }

// P3: the numbers of errors, and how they are asked.
func TestErrorNumbers(t *testing.T) {
	names := []string{"OK", "ErrRange", "ErrSyntax", "ErrShape", "ErrFull", "ErrOrder", "ErrNone", "ErrState", "ErrClash", "ErrFile"}
	errnos := []api.Errno{api.OK, api.ErrRange, api.ErrSyntax, api.ErrShape, api.ErrFull, api.ErrOrder, api.ErrNone, api.ErrState, api.ErrClash, api.ErrFile}
	for i, e := range errnos {
		if int(e) != i || e.Error() != names[i] {
			t.Errorf("error %d is %d, %q, want %q", i, int(e), e.Error(), names[i])
		}
		if plain.Told(e) != e || plain.Told(wrapped{e}) != e {
			t.Errorf("%v is told as %v, wrapped as %v", e, plain.Told(e), plain.Told(wrapped{e}))
		}
	}
	if plain.Told(nil) != api.OK {
		t.Errorf("nil is told as %v", plain.Told(nil))
	}
}
