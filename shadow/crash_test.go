package shadow

import "testing"

// TestCrash (19.1): nothing written, pages written ahead of any End, and since the last one; once and twice, and behind an
// End, where nothing is lost.
func TestCrash(t *testing.T) {
	for _, one := range []struct{ steps, want string }{
		{"", ""},
		{"End", ""},
		{"3=5", ""},
		{"3=0", ""},
		{"3=5 3=6 4=7", ""},
		{allOf(1), ""},
		{"3=5 End", "3@0=5"},
		{"3=0 End", "3@0=0"},
		{"3=5 End End", "3@0=5"},
		{"3=5 End 3=6", "3@0=5"},
		{"3=5 End 3=6 3=7", "3@0=5"},
		{"3=5 End 4=6", "3@0=5"},
		{"3=5 4=6 End 4=7 5=8", "3@0=5 4@1=6"},
		{"3=5 End 3=6 End", "3@1=6"},
		{"3=5 End 3=6 End 3=7", "3@1=6"},
		{"3=5 Crash 4=6 End 3=7", "4@0=6"},
		{mixedUp, "0@0=10 1@4=21 3@5=13 5@3=15 6@6=26"},
		{mixedUp + " End", "0@0=10 1@2=41 3@5=13 4@7=14 5@8=0 6@6=26 7@1=7"},
		{allOf(1) + " End " + allOf(11), "0@0=1 1@1=2 2@2=3 3@3=4 4@4=5 5@5=6 6@6=7 7@7=8"},
		{allOf(1) + " End " + allOf(11) + " End", "0@8=11 1@9=12 2@10=13 3@11=14 4@12=15 5@13=16 6@14=17 7@15=18"},
	} {
		d := behind(t, one.steps)
		for range 3 {
			d.Crash()
			wantState(t, one.steps, d, one.want)
		}
		wantStep(t, d, stepOf("End"), 0)
		wantState(t, one.steps, d, one.want)
	}
}

// TestCrashEach (19.1): each page alone is as it was, in its slot, worth what it was.
func TestCrashEach(t *testing.T) {
	for page := range 8 {
		for other := range 8 {
			for _, ahead := range []string{"", mixedUp + " End", allOf(1) + " End"} {
				d := behind(t, ahead)
				want := stateOf(d)
				d.Write(page, 900)
				d.Write(other, 901)
				d.Crash()
				wantState(t, write(page, 900), d, want)
			}
		}
	}
}

// TestCrashAnew (19.1): behind it the same can become of the disk as behind the last End.
func TestCrashAnew(t *testing.T) {
	for _, ahead := range []string{"", "3=5 End", mixedUp + " End", allOf(1) + " End", allOf(1) + " End " + allOf(11) + " End"} {
		for _, lost := range []string{"", "3=1", "3=1 3=2 7=3", allOf(500), "0=1 Crash 2=2", "2=1 1=1 Crash Crash"} {
			wantFates(t, ahead+" "+lost,
				func() *Disk { return behind(t, ahead+" "+lost+" Crash") }, func() *Disk { return behind(t, ahead) })
		}
	}
}
