package disk_test

import (
	"math"
	"slices"
	"strings"
	"testing"

	"klaxon/api"
	"klaxon/disk"
)

// P2.5: the power goes off behind just so many operations, be they Writes or
// Syncs, and stays off.
func TestArmed(t *testing.T) {
	for after := range 6 {
		for _, write := range []bool{true, false} {
			d := made(t, 2, 64)
			operate := func() api.Errno {
				if write {
					return d.Write(1, []byte("a"))
				}
				return d.Sync()
			}
			d.Arm(after)
			for range after {
				isErr(t, "operation", operate(), api.OK)
			}
			// The power goes off when the next one comes, not ahead of that.
			isDead(t, d, false)
			for range 3 {
				isErr(t, "operation", operate(), api.ErrDead)
				isDead(t, d, true)
			}
			isOps(t, d, after)
		}
	}
}

// P2.5: an operation that is ErrDead does nothing.
func TestDeadDoesNothing(t *testing.T) {
	d := made(t, 4, 64)
	isErr(t, "Write", d.Write(1, []byte("safe")), api.OK)
	isErr(t, "Sync", d.Sync(), api.OK)
	isErr(t, "Write", d.Write(2, []byte("unsafe")), api.OK)
	d.Arm(0)
	isErr(t, "Write", d.Write(1, []byte("lost")), api.ErrDead)
	isErr(t, "Write", d.Write(3, []byte("lost")), api.ErrDead)
	isErr(t, "Sync", d.Sync(), api.ErrDead)
	isUnsafe(t, d, 2)
	d.Crash([]int{1, 2, 3})
	reads(t, d, 1, "safe")
	reads(t, d, 2, "unsafe")
	reads(t, d, 3, "")
}

// P2.5: a Sync ahead of which the power goes off leaves all unsafe.
func TestDeadSync(t *testing.T) {
	d := made(t, 4, 64)
	d.Arm(2)
	isErr(t, "Write", d.Write(3, []byte("ab")), api.OK)
	isErr(t, "Write", d.Write(1, []byte("c")), api.OK)
	isErr(t, "Sync", d.Sync(), api.ErrDead)
	isUnsafe(t, d, 1, 3)
	d.Crash(nil)
	reads(t, d, 1, "")
	reads(t, d, 3, "")
	isUnsafe(t, d)
}

// P2.5: the last Arm counts; below 0 takes it back.
func TestArmedAgain(t *testing.T) {
	d := made(t, 1, 64)
	many := func(count int) {
		t.Helper()
		for range count {
			isErr(t, "Write", d.Write(0), api.OK)
		}
	}
	many(20)
	for _, below := range []int{-1, -2, math.MinInt} {
		d.Arm(0)
		d.Arm(below)
		many(20)
		d.Arm(3)
		many(2)
		d.Arm(below)
		many(20)
	}
	d.Arm(1)
	d.Arm(5)
	many(5)
	d.Arm(math.MaxInt)
	many(20)
	d.Arm(2)
	many(1)
	d.Arm(2)
	many(2)
	isErr(t, "Write", d.Write(0), api.ErrDead)
}

// P2.5: what is no operation counts for nothing.
func TestArmCountsOperations(t *testing.T) {
	d := made(t, 2, 64)
	d.Arm(1)
	for range 5 {
		isErr(t, "Write", d.Write(2), api.ErrArg)
		isErr(t, "Write", d.Write(0, make([]byte, 65)), api.ErrLong)
		d.Read(0)
		d.Unsafe()
		d.Ops()
	}
	isErr(t, "Sync", d.Sync(), api.OK)
	for range 5 {
		isErr(t, "Write", d.Write(-1), api.ErrArg)
		isErr(t, "Write", d.Write(1, make([]byte, 65)), api.ErrLong)
		reads(t, d, 0, "")
		isDead(t, d, false)
	}
	isErr(t, "Sync", d.Sync(), api.ErrDead)
}

// P2.5: Arm with the power off does nothing, neither then nor behind a Crash.
func TestArmWithThePowerOff(t *testing.T) {
	for _, after := range []int{-1, 0, 1, math.MaxInt, math.MinInt} {
		d := made(t, 2, 64)
		d.Arm(0)
		isErr(t, "Sync", d.Sync(), api.ErrDead)
		d.Arm(after)
		isDead(t, d, true)
		isErr(t, "Sync", d.Sync(), api.ErrDead)
		isErr(t, "Write", d.Write(0), api.ErrDead)
		d.Crash(nil)
		for range 5 {
			isErr(t, "Write", d.Write(0), api.OK)
		}
	}
}

// P2.6: behind a Crash the power is on, and does not go off by itself, whether
// it was off ahead of it or on.
func TestCrashBringsThePowerBack(t *testing.T) {
	for _, done := range []int{0, 1, 2, 3, 4} {
		d := made(t, 2, 64)
		d.Arm(2)
		for range done {
			d.Sync()
		}
		d.Crash(nil)
		isDead(t, d, false)
		reads(t, d, 1, "")
		for range 5 {
			isErr(t, "Sync", d.Sync(), api.OK)
		}
		d.Arm(0)
		isErr(t, "Sync", d.Sync(), api.ErrDead)
	}
}

// laid is a disk whose sectors 0 to 4 have lower letters that are safe; 0 to 3,
// and 5, which was never safe, then have upper letters that are not.
func laid(t *testing.T) *disk.Disk {
	t.Helper()
	d := made(t, 8, 64)
	for n := range 5 {
		isErr(t, "Write", d.Write(n, []byte(strings.Repeat("a", 64))), api.OK)
	}
	isErr(t, "Sync", d.Sync(), api.OK)
	for _, n := range []int{5, 0, 3, 1, 2} {
		isErr(t, "Write", d.Write(n, []byte("ABCD")), api.OK)
	}
	isUnsafe(t, d, 0, 1, 2, 3, 5)
	return d
}

// P2.6: without keep and torn, all is as it was when it was safe last.
func TestCrashLosesWhatIsUnsafe(t *testing.T) {
	for _, keep := range [][]int{nil, {}} {
		d := laid(t)
		d.Crash(keep)
		for n := range 5 {
			reads(t, d, n, strings.Repeat("a", 64))
		}
		for n := 5; n < 8; n++ {
			reads(t, d, n, "")
		}
		isUnsafe(t, d)
	}
}

// P2.6: a sector in keep is as it was written last, the 0s behind it too.
func TestCrashKeeps(t *testing.T) {
	d := laid(t)
	d.Crash([]int{3, 5, 3, 0})
	for n, want := range []string{"ABCD", strings.Repeat("a", 64), strings.Repeat("a", 64), "ABCD", strings.Repeat("a", 64), "ABCD", "", ""} {
		reads(t, d, n, want)
	}
	isUnsafe(t, d)
}

// P2.6: a torn sector has its first bytes as written last, the others as they
// were when it was safe last.
func TestCrashTears(t *testing.T) {
	whole := strings.Repeat("a", 64)
	for had, want := range map[int]string{
		math.MinInt: whole,
		-1:          whole,
		0:           whole,
		1:           "A" + whole[1:],
		3:           "ABC" + whole[3:],
		4:           "ABCD" + whole[4:],
		5:           "ABCD\x00" + whole[5:],
		63:          "ABCD" + strings.Repeat("\x00", 59) + "a",
		64:          "ABCD",
		65:          "ABCD",
		math.MaxInt: "ABCD",
	} {
		d := laid(t)
		d.Crash(nil, api.Torn{Sector: 2, Bytes: had})
		reads(t, d, 2, want)
		reads(t, d, 1, whole)
		reads(t, d, 3, whole)
		isUnsafe(t, d)
	}
}

// P2.6: a torn sector that was never safe has bytes 0 behind what lasts.
func TestCrashTearsTheNeverSafe(t *testing.T) {
	for had, want := range map[int]string{-1: "", 0: "", 1: "A", 2: "AB", 4: "ABCD", 64: "ABCD", 65: "ABCD"} {
		d := laid(t)
		d.Crash(nil, api.Torn{Sector: 5, Bytes: had})
		reads(t, d, 5, want)
	}
}

// P2.6: keep goes ahead of torn, and the first of torn ahead of the others.
func TestCrashTakesTheFirst(t *testing.T) {
	whole := strings.Repeat("a", 64)
	d := laid(t)
	d.Crash([]int{1},
		api.Torn{Sector: 1, Bytes: 2},
		api.Torn{Sector: 2, Bytes: 1}, api.Torn{Sector: 2, Bytes: 3},
		api.Torn{Sector: 3, Bytes: 3}, api.Torn{Sector: 3, Bytes: 1},
		api.Torn{Sector: 0, Bytes: -1}, api.Torn{Sector: 0, Bytes: 64},
		api.Torn{Sector: 5, Bytes: 0}, api.Torn{Sector: 5, Bytes: 4},
	)
	for n, want := range []string{whole, "ABCD", "A" + whole[1:], "ABC" + whole[3:], whole, "", "", ""} {
		reads(t, d, n, want)
	}
}

// P2.6: numbers of sectors that are safe, and of such as there are not, have
// no part.
func TestCrashOfOthers(t *testing.T) {
	whole := strings.Repeat("a", 64)
	d := laid(t)
	d.Crash([]int{-1, 8, 4, 7, math.MaxInt, math.MinInt, 64},
		api.Torn{Sector: -1, Bytes: 64}, api.Torn{Sector: 8, Bytes: 64}, api.Torn{Sector: math.MinInt, Bytes: 1},
		api.Torn{Sector: math.MaxInt, Bytes: 1}, api.Torn{Sector: 4, Bytes: 2}, api.Torn{Sector: 6, Bytes: 2},
		api.Torn{}, api.Torn{Sector: 1, Bytes: 1})
	for n, want := range []string{whole, "A" + whole[1:], whole, whole, whole, "", "", ""} {
		reads(t, d, n, want)
	}
	isUnsafe(t, d)
	isErr(t, "Write", d.Write(8), api.ErrArg)
}

// P2.6: what lasted is safe: another Crash does not take it back, nor bring
// back what was lost.
func TestCrashMakesSafe(t *testing.T) {
	whole := strings.Repeat("a", 64)
	d := laid(t)
	d.Crash([]int{0}, api.Torn{Sector: 1, Bytes: 2})
	d.Crash([]int{2, 3}, api.Torn{Sector: 0, Bytes: 1}, api.Torn{Sector: 1, Bytes: 3})
	for n, want := range []string{"ABCD", "AB" + whole[2:], whole, whole} {
		reads(t, d, n, want)
	}
	isErr(t, "Write", d.Write(1, []byte("xyz")), api.OK)
	d.Crash(nil, api.Torn{Sector: 1, Bytes: 1})
	reads(t, d, 1, "xB"+whole[2:])
}

// P2.6: a sector that is written again ahead of a Sync falls back behind both
// writes; one that is written behind it only behind the second.
func TestCrashOfWhatWasWrittenAgain(t *testing.T) {
	for _, synced := range []bool{false, true} {
		want := ""
		d := made(t, 2, 64)
		isErr(t, "Write", d.Write(1, []byte("first")), api.OK)
		if synced {
			want = "first"
			isErr(t, "Sync", d.Sync(), api.OK)
		}
		isErr(t, "Write", d.Write(1, []byte("2nd")), api.OK)
		reads(t, d, 1, "2nd")
		d.Crash(nil)
		reads(t, d, 1, want)

		isErr(t, "Write", d.Write(1, []byte("third")), api.OK)
		isErr(t, "Write", d.Write(1, []byte("4th")), api.OK)
		d.Crash([]int{1})
		reads(t, d, 1, "4th")

		isErr(t, "Write", d.Write(1, []byte("fifth")), api.OK)
		isErr(t, "Write", d.Write(1, []byte("SIX")), api.OK)
		d.Crash(nil, api.Torn{Sector: 1, Bytes: 2})
		reads(t, d, 1, "SIh")
	}
}

// P2.6: with the power off, a Crash finds what was unsafe when it went off.
func TestCrashWithThePowerOff(t *testing.T) {
	whole := strings.Repeat("a", 64)
	d := laid(t)
	d.Arm(0)
	isErr(t, "Sync", d.Sync(), api.ErrDead)
	isUnsafe(t, d, 0, 1, 2, 3, 5)
	d.Crash([]int{0}, api.Torn{Sector: 1, Bytes: 1})
	isDead(t, d, false)
	for n, want := range []string{"ABCD", "A" + whole[1:], whole, whole, whole, "", "", ""} {
		reads(t, d, n, want)
	}
	isUnsafe(t, d)
}

// P2.6: what is handed in is not changed.
func TestCrashLeavesItsArguments(t *testing.T) {
	d := laid(t)
	keep := []int{5, 3, 3, -1, 99}
	torn := []api.Torn{{Sector: 2, Bytes: 99}, {Sector: 2, Bytes: -1}, {Sector: -7, Bytes: 3}}
	keepWas, tornWas := slices.Clone(keep), slices.Clone(torn)
	d.Crash(keep[:3], torn[:2]...)
	if !slices.Equal(keep, keepWas) || !slices.Equal(torn, tornWas) {
		t.Errorf("Crash changed what it was handed: %v, %v", keep, torn)
	}
}

// P2.8: what is synced stays, whatever the Crash.
func TestSyncedStays(t *testing.T) {
	d := made(t, 8, 64)
	isErr(t, "Write", d.Write(3, []byte("ab")), api.OK)
	isErr(t, "Write", d.Write(7, []byte("last")), api.OK)
	isErr(t, "Sync", d.Sync(), api.OK)
	for _, keep := range [][]int{nil, {3}, {7, 3, 0}} {
		for _, had := range []int{-1, 0, 1, 64, 65} {
			isErr(t, "Write", d.Write(4, []byte("other")), api.OK)
			d.Crash(keep, api.Torn{Sector: 3, Bytes: had}, api.Torn{Sector: 4, Bytes: had}, api.Torn{Sector: 7, Bytes: had})
			reads(t, d, 3, "ab")
			reads(t, d, 7, "last")
		}
	}
}
