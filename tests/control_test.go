package tests

import (
	"fmt"
	"math/rand"
	"regexp"
	"slices"
	"strconv"
	"strings"
	"testing"

	"loop.example/g00207/impl"
)

// untold is what ReadControl tells of a text in which nothing is.
var untold = impl.Control{MaxAge: -1, Shared: -1, Stale: -1}

const second = impl.MaxSecond

// numbersTold is a Control of three numbers, without a flag.
func numbersTold(maxAge, shared, stale int64) impl.Control {
	return impl.Control{MaxAge: maxAge, Shared: shared, Stale: stale}
}

// flagsTold is a Control with the flags of the lowest four bits, in the order of the fields, and no number told.
func flagsTold(bits int) impl.Control {
	c := untold
	c.NoStore, c.NoCache, c.Private, c.Must = bits&1 != 0, bits&2 != 0, bits&4 != 0, bits&8 != 0
	return c
}

// controlsOf are all Controls with three of these numbers, with each choice of flags.
func controlsOf(numbers ...int64) []impl.Control {
	controls := []impl.Control{}
	for bits := range 16 {
		for _, maxAge := range numbers {
			for _, shared := range numbers {
				for _, stale := range numbers {
					c := flagsTold(bits)
					c.MaxAge, c.Shared, c.Stale = maxAge, shared, stale
					controls = append(controls, c)
				}
			}
		}
	}
	return controls
}

func rightControls() []impl.Control {
	return controlsOf(-1, 0, 1, 60, second-1, second)
}

// outSeconds are no numbers of a Control.
var outSeconds = []int64{-2, -3, -60, -second, least, least + 1, second + 1, second + 2, 2 * second, 1 << 31, 1 << 32, 1<<32 - 1, 1<<32 + 5, 1 << 62, greatest - 1, greatest}

// wrongControls are not ControlOk by one number, by two, or by all.
func wrongControls() []impl.Control {
	controls := []impl.Control{}
	for bits := range 16 {
		for _, out := range outSeconds {
			for _, in := range []int64{-1, 0, 7, second} {
				for _, c := range []impl.Control{numbersTold(out, in, in), numbersTold(in, out, in), numbersTold(in, in, out), numbersTold(out, out, in), numbersTold(out, in, out), numbersTold(in, out, out), numbersTold(out, out, out)} {
					flags := flagsTold(bits)
					c.NoStore, c.NoCache, c.Private, c.Must = flags.NoStore, flags.NoCache, flags.Private, flags.Must
					controls = append(controls, c)
				}
			}
		}
	}
	return controls
}

// numbersOf are the fields that are numbers, to be looked at or changed.
func numbersOf(c *impl.Control) []*int64 {
	return []*int64{&c.MaxAge, &c.Shared, &c.Stale}
}

func flagsOf(c *impl.Control) []*bool {
	return []*bool{&c.NoStore, &c.NoCache, &c.Private, &c.Must}
}

func controlIs(c impl.Control) bool {
	for _, number := range numbersOf(&c) {
		if *number < -1 || *number > 1000000000 {
			return false
		}
	}
	return true
}

var numberNames = []string{"max-age", "s-maxage", "max-stale"}

var flagNames = []string{"no-store", "no-cache", "private", "must-revalidate"}

var isControlItem = regexp.MustCompile(`^(?i:(max-age|s-maxage|max-stale)=([0-9]{1,15})|(max-stale)|(no-store|no-cache|private|must-revalidate))$`)

// plainReadControl tells ReadControl once more: from the last Item to the first, so that the first is what stays.
func plainReadControl(s string) impl.Control {
	c := untold
	if !impl.VisibleOk(s) {
		return c
	}
	items := plainItems(s)
	slices.Reverse(items)
	for _, item := range items {
		parts := isControlItem.FindStringSubmatch(item)
		switch {
		case parts == nil:
		case parts[3] != "":
			c.Stale = second
		case parts[4] != "":
			*flagsOf(&c)[slices.Index(flagNames, strings.ToLower(parts[4]))] = true
		default:
			number, _ := strconv.ParseInt(parts[2], 10, 64)
			*numbersOf(&c)[slices.Index(numberNames, strings.ToLower(parts[1]))] = min(number, second)
		}
	}
	return c
}

// plainShowControl tells ShowControl once more.
func plainShowControl(c impl.Control) string {
	if !controlIs(c) {
		return ""
	}
	shown := ""
	for i, number := range numbersOf(&c) {
		if *number >= 0 {
			shown += fmt.Sprintf("%s=%d, ", numberNames[i], *number)
		}
	}
	for i, flag := range flagsOf(&c) {
		if *flag {
			shown += flagNames[i] + ", "
		}
	}
	return strings.TrimSuffix(shown, ", ")
}

// plainTighter tells Tighter once more: what is not told is as if it were above each number.
func plainTighter(a, b impl.Control) impl.Control {
	if !controlIs(a) || !controlIs(b) {
		return impl.Control{}
	}
	tight := untold
	for i, number := range numbersOf(&tight) {
		// As numbers without a sign, -1 is the greatest of all.
		*number = int64(min(uint64(*numbersOf(&a)[i]), uint64(*numbersOf(&b)[i])))
	}
	for i, flag := range flagsOf(&tight) {
		*flag = *flagsOf(&a)[i] || *flagsOf(&b)[i]
	}
	return tight
}

func checkControl(t *testing.T, s string, want impl.Control) {
	t.Helper()
	if got := impl.ReadControl(s); got != want {
		t.Errorf("ReadControl(%.100q): %+v, not %+v", s, got, want)
	}
}

func TestMaxSecond(t *testing.T) {
	if impl.MaxSecond != 1000000000 {
		t.Fatal(impl.MaxSecond)
	}
}

func TestControlOkByNumbers(t *testing.T) {
	for number, want := range map[int64]bool{-2: false, -1: true, 0: true, 1: true, 999999999: true, 1000000000: true, 1000000001: false, greatest: false, least: false, 1 << 32: false, 1<<32 + 1: false, -1 << 32: false} {
		for bits := range 16 {
			for at := range 3 {
				for _, other := range []int64{-1, 0, second} {
					c := flagsTold(bits)
					c.MaxAge, c.Shared, c.Stale = other, other, other
					*numbersOf(&c)[at] = number
					if impl.ControlOk(c) != want {
						t.Errorf("ControlOk(%+v) is not %v", c, want)
					}
				}
			}
			all := flagsTold(bits)
			all.MaxAge, all.Shared, all.Stale = number, number, number
			if impl.ControlOk(all) != want {
				t.Errorf("ControlOk(%+v) is not %v", all, want)
			}
		}
	}
	if !impl.ControlOk(impl.Control{}) || !impl.ControlOk(untold) {
		t.Error("the zero Control, or that of which nothing is told, is not ControlOk")
	}
}

func TestControlOk(t *testing.T) {
	for _, c := range rightControls() {
		if !impl.ControlOk(c) {
			t.Errorf("ControlOk(%+v) is false", c)
		}
	}
	for _, c := range wrongControls() {
		if impl.ControlOk(c) {
			t.Errorf("ControlOk(%+v)", c)
		}
	}
	for _, c := range controlsOf(-2, -1, 0, second, second+1, greatest, least) {
		if impl.ControlOk(c) != controlIs(c) {
			t.Errorf("ControlOk(%+v) is not %v", c, controlIs(c))
		}
	}
}

func TestReadControlOfOneDirective(t *testing.T) {
	for s, want := range map[string]impl.Control{
		"":                     untold,
		"max-age=5":            numbersTold(5, -1, -1),
		"s-maxage=5":           numbersTold(-1, 5, -1),
		"max-stale=5":          numbersTold(-1, -1, 5),
		"max-stale":            numbersTold(-1, -1, second),
		"no-store":             flagsTold(1),
		"no-cache":             flagsTold(2),
		"private":              flagsTold(4),
		"must-revalidate":      flagsTold(8),
		"max-age=0":            numbersTold(0, -1, -1),
		"s-maxage=0":           numbersTold(-1, 0, -1),
		"max-stale=0":          numbersTold(-1, -1, 0),
		"max-age=1000000000":   numbersTold(second, -1, -1),
		"s-maxage=1000000000":  numbersTold(-1, second, -1),
		"max-stale=1000000000": numbersTold(-1, -1, second),
	} {
		checkControl(t, s, want)
		checkControl(t, "x, "+s+", y=1", want)
	}
}

func TestReadControlOfAllDirectives(t *testing.T) {
	all := []string{"max-age=1", "s-maxage=2", "max-stale=3", "no-store", "no-cache", "private", "must-revalidate"}
	want := flagsTold(15)
	want.MaxAge, want.Shared, want.Stale = 1, 2, 3
	checkControl(t, strings.Join(all, ", "), want)
	slices.Reverse(all)
	checkControl(t, strings.Join(all, ","), want)
	source := rand.New(rand.NewSource(91))
	for range 200 {
		source.Shuffle(len(all), func(i, j int) { all[i], all[j] = all[j], all[i] })
		checkControl(t, strings.Join(all, ", "), want)
		checkControl(t, strings.Join(append(slices.Clone(all), all...), ","), want)
	}
	// Each choice of them tells just its own fields.
	for bits := range 128 {
		told, part := []string{}, untold
		for i, number := range numbersOf(&part) {
			if bits>>i&1 != 0 {
				told, *number = append(told, fmt.Sprintf("%s=%d", numberNames[i], i+40)), int64(i+40)
			}
		}
		for i, flag := range flagsOf(&part) {
			if bits>>(i+3)&1 != 0 {
				told, *flag = append(told, flagNames[i]), true
			}
		}
		checkControl(t, strings.Join(told, ", "), part)
		slices.Reverse(told)
		checkControl(t, strings.Join(told, ","), part)
	}
}

func TestReadControlOfDirectivesToldTwice(t *testing.T) {
	for at, name := range numberNames {
		for _, pair := range [][2]int64{{3, 5}, {5, 3}, {0, 7}, {7, 0}, {second, 1}, {1, second}, {4, 4}, {0, second}, {second, 0}} {
			want := untold
			*numbersOf(&want)[at] = pair[0]
			first, then := fmt.Sprintf("%s=%d", name, pair[0]), fmt.Sprintf("%s=%d", name, pair[1])
			for _, s := range []string{first + "," + then, first + ", x, " + then, first + "," + then + "," + then, first + "," + first + "," + then, strings.ToUpper(first) + "," + then, first + "," + strings.ToUpper(then)} {
				checkControl(t, s, want)
			}
			for _, odd := range []string{"x", "-1", "", "1e9", "0000000000000001"} {
				checkControl(t, first+","+name+"="+odd, want)
				checkControl(t, first+","+name+"="+odd+","+then, want)
			}
		}
		// One above MaxSecond is told, too, and is the first.
		want := untold
		*numbersOf(&want)[at] = second
		checkControl(t, name+"=1000000001, "+name+"=5", want)
		checkControl(t, name+"=999999999999999, "+name+"=5", want)
	}
	for i, name := range flagNames {
		want := untold
		*flagsOf(&want)[i] = true
		checkControl(t, name+","+name, want)
		checkControl(t, name+"=1, "+name+", "+name+"=0", want)
	}
	checkControl(t, "max-age=1,s-maxage=2,max-stale=3,max-stale=4,s-maxage=5,max-age=6", numbersTold(1, 2, 3))
}

// A form that is not taken tells nothing, so the one behind it is the first.
func TestReadControlOfAFormThatIsNotTaken(t *testing.T) {
	for at, name := range numberNames {
		for _, odd := range []string{"=", "=x", "=-1", "=+1", "= 1", "=1 x", "=\"1\"", "=1.0", "=0x1", "=1e1", "==1", "=0000000000000001", " =1", "x=1", "=1x", ":1", " 1", "1", "=1;", "=1=", "=1=2", "-=1"} {
			want := untold
			*numbersOf(&want)[at] = 8
			first := name + odd
			checkControl(t, first+","+name+"=8", want)
			checkControl(t, first+", "+first+", "+name+"=8, "+name+"=9", want)
			checkControl(t, name+"=8, "+first, want)
			checkControl(t, first, untold)
		}
	}
	checkControl(t, "max-age, max-age=8", numbersTold(8, -1, -1))
	checkControl(t, "s-maxage, s-maxage=8", numbersTold(-1, 8, -1))
}

func TestReadControlOfOtherLetters(t *testing.T) {
	for s, want := range map[string]impl.Control{
		"MAX-AGE=5":       numbersTold(5, -1, -1),
		"Max-Age=5":       numbersTold(5, -1, -1),
		"mAX-aGE=5":       numbersTold(5, -1, -1),
		"S-MAXAGE=5":      numbersTold(-1, 5, -1),
		"S-MaxAge=5":      numbersTold(-1, 5, -1),
		"MAX-STALE=5":     numbersTold(-1, -1, 5),
		"Max-Stale":       numbersTold(-1, -1, second),
		"NO-STORE":        flagsTold(1),
		"No-Store":        flagsTold(1),
		"NO-CACHE":        flagsTold(2),
		"nO-cAcHe":        flagsTold(2),
		"PRIVATE":         flagsTold(4),
		"Private":         flagsTold(4),
		"MUST-REVALIDATE": flagsTold(8),
		"Must-Revalidate": flagsTold(8),
	} {
		checkControl(t, s, want)
	}
	// A letter is another one only by its size.
	for _, s := range []string{"max_age=5", "maxage=5", "max-age\x00=5", "s-max-age=5", "smaxage=5", "s_maxage=5", "max\u2010age=5", "max-\u0430ge=5", "no_store", "nostore", "no store", "no-\u017ftore", "mu\u017ft-revalidate", "no-cache\u212a", "privat\u0435", "must revalidate", "mustrevalidate", "maxstale", "max_stale", "max stale"} {
		checkControl(t, s, untold)
	}
}

func TestReadControlOfBlanksAndCommas(t *testing.T) {
	want := flagsTold(9)
	want.MaxAge = 5
	for _, s := range []string{"max-age=5,no-store,must-revalidate", " max-age=5 , no-store , must-revalidate ", "\tmax-age=5\t,\tno-store\t,must-revalidate\t", ",max-age=5,,no-store,must-revalidate,", ",,, max-age=5 ,\t, , no-store ,,, must-revalidate ,,", "max-age=5" + strings.Repeat(" ", 366) + ",no-store,must-revalidate", strings.Repeat(",", 366) + "max-age=5,no-store,must-revalidate"} {
		checkControl(t, s, want)
	}
	for _, s := range []string{"", " ", "\t", ",", ", ,", " , \t,", strings.Repeat(" ", 400), strings.Repeat(",", 400), "max-age=5 no-store", "max-age=5;no-store", "no-store must-revalidate", "no-store;private", "max-age =5", "max-age= 5", "max-age = 5", "max-age\t=5", "max-age=\t5", "s-maxage =5", "s-maxage= 5", "max-stale =5", "max-stale= 5", "max-stale =", "max-age=5 5", "no- store", "no -store", "max -age=5"} {
		checkControl(t, s, untold)
	}
}

func TestReadControlByDigits(t *testing.T) {
	for number, want := range map[string]int64{
		"0":                     0,
		"1":                     1,
		"00":                    0,
		"007":                   7,
		"60":                    60,
		"999999999":             999999999,
		"1000000000":            second,
		"1000000001":            second,
		"9999999999":            second,
		"2147483648":            second,
		"4294967297":            second,
		"999999999999999":       second,
		"000000000000000":       0,
		"000000000000005":       5,
		"000001000000000":       second,
		"000001000000001":       second,
		"100000000000000":       second,
		"0000000000000000":      -1,
		"0000000000000005":      -1,
		"0000001000000000":      -1,
		"1000000000000000":      -1,
		"9999999999999999":      -1,
		"9223372036854775807":   -1,
		"18446744073709551621":  -1,
		"":                      -1,
		"-":                     -1,
		"-0":                    -1,
		"-1":                    -1,
		"+1":                    -1,
		"1.0":                   -1,
		".5":                    -1,
		"1e3":                   -1,
		"0x10":                  -1,
		"a":                     -1,
		"f":                     -1,
		"1a":                    -1,
		"a1":                    -1,
		"1_0":                   -1,
		"1 0":                   -1,
		"1'0":                   -1,
		"\"5\"":                 -1,
		"'5'":                   -1,
		"=5":                    -1,
		"5=":                    -1,
		"5=6":                   -1,
		"5;":                    -1,
		"*":                     -1,
		"infinity":              -1,
		strings.Repeat("0", 99): -1,
		strings.Repeat("9", 99): -1,
	} {
		for at, name := range numberNames {
			control := untold
			*numbersOf(&control)[at] = want
			checkControl(t, name+"="+number, control)
			checkControl(t, " "+strings.ToUpper(name)+"="+number+" ,", control)
		}
	}
	// Where a digit may stand, another byte may not.
	for b := range 256 {
		s := string([]byte{byte(b)})
		for at, name := range numberNames {
			ahead, behind := untold, untold
			switch {
			case b >= '0' && b <= '9':
				*numbersOf(&ahead)[at], *numbersOf(&behind)[at] = int64(b-'0')*10+1, int64(b-'0')+10
			case b == ' ' || b == '\t' || b == ',':
				*numbersOf(&behind)[at] = 1
			}
			checkControl(t, name+"="+s+"1", ahead)
			checkControl(t, name+"=1"+s, behind)
		}
	}
}

func TestReadControlOfMaxStale(t *testing.T) {
	for s, want := range map[string]int64{
		"max-stale":                          second,
		" max-stale ":                        second,
		"max-stale,max-stale":                second,
		"max-stale, max-stale=5":             second,
		"max-stale=5, max-stale":             5,
		"max-stale=0, max-stale":             0,
		"max-stale, max-stale=0":             second,
		"max-stale=5, max-stale, max-stale":  5,
		"max-stale=5,max-stale,max-stale=7":  5,
		"max-stale,max-stale=7,max-stale=5":  second,
		"max-stale=, max-stale":              second,
		"max-stale=x, max-stale, max-stale=": second,
		"max-stale=x, max-stale=4":           4,
		"max-stale=x, max-stale=4,max-stale": 4,
		"max-stale=":                         -1,
		"max-stale=,max-stale=":              -1,
		"max-stale=x":                        -1,
		"max-stale =":                        -1,
		"=max-stale":                         -1,
		"max-stale x":                        -1,
		"max-stale;":                         -1,
		"max-stales":                         -1,
		"xmax-stale":                         -1,
		"\"max-stale\"":                      -1,
		"max-stale=\"\"":                     -1,
	} {
		checkControl(t, s, numbersTold(-1, -1, want))
		checkControl(t, "max-age=6,"+s, numbersTold(6, -1, want))
		checkControl(t, s+",s-maxage=6", numbersTold(-1, 6, want))
	}
}

// notDirectives are Items that tell nothing, wherever they stand.
func notDirectives() []string {
	items := []string{"x", "x=1", "=", "==", "=5", "=no-store", "-", "*", "public", "immutable", "no-transform", "only-if-cached", "min-fresh=5", "proxy-revalidate", "must-understand", "stale-if-error=5", "stale-while-revalidate=5", "max-age", "s-maxage", "MAX-AGE", "S-Maxage", "age=5", "maxage=5", "max", "no", "s", "must", "stale", "max-age:5", "max-age 5", "max-age5", "set-max-age=5", "5=max-age", "s-max-age=5", "no-store/no-cache", "no-store&private", "no-storeno-store", "max-agemax-age=5"}
	for _, name := range flagNames {
		items = append(items, name+"=", name+"=1", name+"=true", name+"=\"x\"", name+"=\"x, y\"", name+" =", name+" x", name+"x", name+"s", "x"+name, "-"+name, name+"-", name+";", name+"\\", name+".", "\""+name+"\"", "'"+name+"'", "\""+name, name+"\"", "x=\""+name+"\"", "x=\"a, "+name+", b\"", "\"a\\\", "+name+"\"", name[1:], name[:len(name)-1], name+" "+name, name+"="+name, "="+name)
	}
	for _, name := range numberNames {
		items = append(items, name+"x=5", name+"s=5", "x"+name+"=5", "-"+name+"=5", name+"-=5", "\""+name+"=5\"", "\""+name+"\"=5", name+"=\"5\"", name+"=\"5", name+"=5\"", "x=\""+name+"=5\"", "x=\"a, "+name+"=5, b\"", "\"a\\\", "+name+"=5\"", name[1:]+"=5", name[:len(name)-1]+"=5", name+"="+name+"=5", name+"= =5", name+"=,\"", "x="+name+"=5", name+"\\=5", name+"=5 "+name+"=6")
	}
	return items
}

func TestReadControlOfWhatIsNoDirective(t *testing.T) {
	want := flagsTold(6)
	want.MaxAge, want.Stale = 5, 6
	for _, item := range notDirectives() {
		checkControl(t, item, untold)
		checkControl(t, " "+item+"\t", untold)
		checkControl(t, "max-age=5, private,no-cache, max-stale=6, "+item, want)
		// What opens without being closed takes all that is behind it along.
		if strings.Count(strings.ReplaceAll(item, "\\\"", ""), "\"")%2 == 0 {
			checkControl(t, item+", max-age=5, private,no-cache, max-stale=6", want)
			checkControl(t, "max-age=5, private, "+item+",no-cache, max-stale=6, "+item, want)
		} else {
			checkControl(t, item+", max-age=5, private,no-cache, max-stale=6", untold)
		}
	}
	// A comma between two bytes 34 parts nothing.
	checkControl(t, "x=\"no-store, a\", private", flagsTold(4))
	checkControl(t, "\"x\", no-store", flagsTold(1))
	checkControl(t, "\"\\\\\", no-store", flagsTold(1))
	checkControl(t, "\"\\\", no-store", untold)
	checkControl(t, "x=\"max-age=4\", max-age=5, y=\"max-age=6\"", numbersTold(5, -1, -1))
}

func TestReadControlOfWhatIsNotVisible(t *testing.T) {
	for b := range 256 {
		s := string([]byte{byte(b)})
		// A byte 34 is visible: it opens, and takes what is behind it along, or spoils the one Item it stands at.
		visible := b >= 32 && b <= 126 || b == 9
		ahead, behind := untold, untold
		if visible {
			behind = flagsTold(1)
		}
		if visible && b != 34 {
			ahead = flagsTold(1)
		}
		checkControl(t, s+", no-store", ahead)
		checkControl(t, "no-store, "+s, behind)
		if !visible {
			for _, text := range []string{"no-store" + s, s + "no-store", "max-age=5" + s + ",private", "max-age=5, max-stale, private, x=\"" + s + "\""} {
				checkControl(t, text, untold)
			}
		}
	}
	for _, odd := range oddTexts {
		for _, text := range []string{odd, odd + "max-age=5", "max-age=5" + odd, "max-age=5," + odd, odd + ",max-age=5", "no-store, max-age=5, s-maxage=6, max-stale, x=" + odd} {
			checkControl(t, text, untold)
		}
	}
}

func TestReadControlByLength(t *testing.T) {
	for n, is := range map[int]bool{8: true, 9: true, 399: true, 400: true, 401: false, 402: false, 800: false, 4000: false, 100000: false} {
		want := untold
		if is {
			want = flagsTold(1)
		}
		checkControl(t, "no-store"+strings.Repeat(" ", n-8), want)
		checkControl(t, strings.Repeat(",", n-8)+"no-store", want)
		checkControl(t, strings.Repeat(" ", n-8)+"no-store", want)
	}
	checkControl(t, "max-age=5,"+strings.Repeat("x", 390), numbersTold(5, -1, -1))
	checkControl(t, "max-age=5,"+strings.Repeat("x", 391), untold)
	checkControl(t, strings.Repeat("max-age=1,", 40), numbersTold(1, -1, -1))
	checkControl(t, strings.Repeat("max-age=1,", 40)+" ", untold)
	checkControl(t, strings.Repeat("no-store,", 50000), untold)
}

// controlTexts are of directives, of what is near them, and of what stands between, in any order; the same in each run.
func controlTexts() []string {
	source := rand.New(rand.NewSource(92))
	pieces := []string{"max-age=5", "max-age=0", "Max-Age=7", "max-age=1000000001", "s-maxage=5", "S-MAXAGE=9", "s-maxage=999999999999999", "max-stale=5", "max-stale=0", "max-stale", "MAX-STALE", "no-store", "No-Cache", "no-cache", "private", "Must-Revalidate", "must-revalidate", "max-age=", "max-age=x", "max-age= 5", "max-age", "s-maxage", "s-maxage=-1", "max-stale=", "max-stale=0000000000000001", "private=\"x\"", "no-store=", "x=\"no-store, a\"", "x", "=", " ", "\"", "\\"}
	texts := nearTexts("max-age=10, private, max-stale, s-maxage=3, no-store")
	for _, told := range textsOf("=1, \"x", 5) {
		texts = append(texts, "max-age"+told, "max-stale"+told, "private"+told)
	}
	for range 20000 {
		text := ""
		for range source.Intn(9) {
			text += pieces[source.Intn(len(pieces))]
			if source.Intn(8) > 0 {
				text += ", "
			}
		}
		switch source.Intn(20) {
		case 0:
			text += "\x7f"
		case 1:
			text += strings.Repeat(" ", 400)
		}
		texts = append(texts, text)
	}
	return texts
}

func TestReadControlOfManyTexts(t *testing.T) {
	var told, not [7]int
	for _, s := range controlTexts() {
		want := plainReadControl(s)
		got := impl.ReadControl(s)
		if got != want {
			t.Fatalf("ReadControl(%q): %+v, not %+v", s, got, want)
		}
		if !impl.ControlOk(got) || impl.ReadControl(impl.ShowControl(got)) != got {
			t.Fatalf("ReadControl(%q): %+v, which is shown as %q", s, got, impl.ShowControl(got))
		}
		for i, number := range numbersOf(&got) {
			if *number >= 0 {
				told[i]++
			} else {
				not[i]++
			}
		}
		for i, flag := range flagsOf(&got) {
			if *flag {
				told[i+3]++
			} else {
				not[i+3]++
			}
		}
	}
	if slices.Min(told[:]) < 1000 || slices.Min(not[:]) < 1000 {
		t.Errorf("the fields were told %v times, and not %v", told, not)
	}
}

func TestShowControl(t *testing.T) {
	all := flagsTold(15)
	all.MaxAge, all.Shared, all.Stale = 1, 2, 3
	most := flagsTold(15)
	most.MaxAge, most.Shared, most.Stale = second, second, second
	none := flagsTold(15)
	none.MaxAge, none.Shared, none.Stale = 0, 0, 0
	stale := flagsTold(1)
	stale.Stale = 4
	for c, want := range map[impl.Control]string{
		untold:                       "",
		{}:                           "max-age=0, s-maxage=0, max-stale=0",
		numbersTold(5, -1, -1):       "max-age=5",
		numbersTold(-1, 5, -1):       "s-maxage=5",
		numbersTold(-1, -1, 5):       "max-stale=5",
		numbersTold(0, -1, -1):       "max-age=0",
		numbersTold(-1, 0, -1):       "s-maxage=0",
		numbersTold(-1, -1, 0):       "max-stale=0",
		numbersTold(second, -1, -1):  "max-age=1000000000",
		numbersTold(-1, second, -1):  "s-maxage=1000000000",
		numbersTold(-1, -1, second):  "max-stale=1000000000",
		flagsTold(1):                 "no-store",
		flagsTold(2):                 "no-cache",
		flagsTold(4):                 "private",
		flagsTold(8):                 "must-revalidate",
		numbersTold(5, 6, -1):        "max-age=5, s-maxage=6",
		numbersTold(-1, 5, 6):        "s-maxage=5, max-stale=6",
		numbersTold(5, -1, 6):        "max-age=5, max-stale=6",
		stale:                        "max-stale=4, no-store",
		flagsTold(3):                 "no-store, no-cache",
		flagsTold(6):                 "no-cache, private",
		flagsTold(12):                "private, must-revalidate",
		flagsTold(9):                 "no-store, must-revalidate",
		flagsTold(15):                "no-store, no-cache, private, must-revalidate",
		numbersTold(5, 6, 7):         "max-age=5, s-maxage=6, max-stale=7",
		all:                          "max-age=1, s-maxage=2, max-stale=3, no-store, no-cache, private, must-revalidate",
		most:                         "max-age=1000000000, s-maxage=1000000000, max-stale=1000000000, no-store, no-cache, private, must-revalidate",
		none:                         "max-age=0, s-maxage=0, max-stale=0, no-store, no-cache, private, must-revalidate",
		numbersTold(-2, -1, -1):      "",
		numbersTold(-1, -2, -1):      "",
		numbersTold(-1, -1, -2):      "",
		numbersTold(second+1, 5, 5):  "",
		numbersTold(5, second+1, 5):  "",
		numbersTold(5, 5, second+1):  "",
		numbersTold(greatest, 5, -1): "",
		numbersTold(5, least, -1):    "",
	} {
		if got := impl.ShowControl(c); got != want {
			t.Errorf("ShowControl(%+v): %q, not %q", c, got, want)
		}
	}
}

func TestShowControlOfMany(t *testing.T) {
	made := map[string]bool{}
	for _, c := range rightControls() {
		got := impl.ShowControl(c)
		if got != plainShowControl(c) {
			t.Errorf("ShowControl(%+v): %q, not %q", c, got, plainShowControl(c))
		}
		if made[got] {
			t.Errorf("%q is shown of two Controls", got)
		}
		made[got] = true
	}
	for _, c := range wrongControls() {
		if got := impl.ShowControl(c); got != "" {
			t.Errorf("ShowControl(%+v): %q", c, got)
		}
	}
}

func howManyTold(c impl.Control) int {
	count := 0
	for _, number := range numbersOf(&c) {
		if *number >= 0 {
			count++
		}
	}
	for _, flag := range flagsOf(&c) {
		if *flag {
			count++
		}
	}
	return count
}

func TestReadControlOfShowControl(t *testing.T) {
	for _, c := range rightControls() {
		shown := impl.ShowControl(c)
		if !impl.VisibleOk(shown) || len(impl.Items(shown)) != howManyTold(c) {
			t.Errorf("ShowControl(%+v): %q has not as many Items as are told", c, shown)
		}
		for _, s := range []string{shown, strings.ToUpper(shown), " " + shown + "\t", shown + ",", strings.ReplaceAll(shown, " ", ""), strings.ReplaceAll(shown, ",", " ,,\t"), shown + ", x=\"no-store, private\", y"} {
			checkControl(t, s, c)
		}
		// What comes behind tells only what was not told ahead.
		checkControl(t, shown+", "+shown, c)
	}
	for _, c := range wrongControls() {
		checkControl(t, impl.ShowControl(c), untold)
	}
	source := rand.New(rand.NewSource(93))
	for range 20000 {
		c := flagsTold(source.Intn(16))
		for _, number := range numbersOf(&c) {
			if source.Intn(4) > 0 {
				*number = source.Int63n(int64(1) << source.Intn(30))
			}
		}
		checkControl(t, impl.ShowControl(c), c)
	}
}

// Texts that no ShowControl makes.
func TestShowControlOfReadControl(t *testing.T) {
	for _, s := range []string{"no-cache, no-store", "s-maxage=1, max-age=1", "max-age=01", "max-stale", "max-age=1000000001", "NO-STORE", "no-store,private", "no-store ", ",no-store", "no-store, x", "no-store, no-store", "max-age=", "x", " ", "private, must-revalidate,", "no-store,  private", "no-store\x00"} {
		c := impl.ReadControl(s)
		if shown := impl.ShowControl(c); shown == s || impl.ReadControl(shown) != c {
			t.Errorf("ReadControl(%q): %+v, which is shown as %q", s, c, shown)
		}
	}
}

func checkTighter(t *testing.T, a, b, want impl.Control) {
	t.Helper()
	for _, pair := range [][2]impl.Control{{a, b}, {b, a}} {
		if got := impl.Tighter(pair[0], pair[1]); got != want {
			t.Errorf("Tighter(%+v, %+v): %+v, not %+v", pair[0], pair[1], got, want)
		}
	}
}

func TestTighterByNumbers(t *testing.T) {
	for _, c := range [][3]int64{{3, 5, 3}, {5, 5, 5}, {0, 5, 0}, {0, 0, 0}, {0, second, 0}, {second, second, second}, {second - 1, second, second - 1}, {-1, 5, 5}, {-1, 0, 0}, {-1, second, second}, {-1, -1, -1}} {
		for at := range 3 {
			for bits := range 16 {
				a, b, want := flagsTold(bits), flagsTold(bits), flagsTold(bits)
				*numbersOf(&a)[at], *numbersOf(&b)[at], *numbersOf(&want)[at] = c[0], c[1], c[2]
				checkTighter(t, a, b, want)
			}
		}
		checkTighter(t, numbersTold(c[0], c[0], c[0]), numbersTold(c[1], c[1], c[1]), numbersTold(c[2], c[2], c[2]))
		checkTighter(t, numbersTold(c[0], c[1], c[0]), numbersTold(c[1], c[0], c[1]), numbersTold(c[2], c[2], c[2]))
	}
	// Each number is held against its own other one alone.
	checkTighter(t, numbersTold(1, 20, 3), numbersTold(10, 2, 30), numbersTold(1, 2, 3))
	checkTighter(t, numbersTold(3, -1, 1), numbersTold(-1, 2, -1), numbersTold(3, 2, 1))
	checkTighter(t, untold, numbersTold(1, 2, 3), numbersTold(1, 2, 3))
	checkTighter(t, impl.Control{}, numbersTold(1, 2, 3), impl.Control{})
}

func TestTighterByFlags(t *testing.T) {
	for a := range 16 {
		for b := range 16 {
			checkTighter(t, flagsTold(a), flagsTold(b), flagsTold(a|b))
			c := flagsTold(b)
			c.MaxAge, c.Shared, c.Stale = 1, 2, 3
			want := flagsTold(a | b)
			want.MaxAge, want.Shared, want.Stale = 1, 2, 3
			checkTighter(t, flagsTold(a), c, want)
		}
	}
}

// isAsTight: has a at most the numbers of b, where they are told, and each flag of b?
func isAsTight(a, b impl.Control) bool {
	for i, number := range numbersOf(&a) {
		other := *numbersOf(&b)[i]
		if other >= 0 && (*number < 0 || *number > other) {
			return false
		}
	}
	for i, flag := range flagsOf(&a) {
		if *flagsOf(&b)[i] && !*flag {
			return false
		}
	}
	return true
}

func TestTighterOfAllPairs(t *testing.T) {
	controls := controlsOf(-1, 0, 9, second)
	for i, a := range controls {
		if got := impl.Tighter(a, a); got != a {
			t.Errorf("Tighter of %+v with itself: %+v", a, got)
		}
		if got := impl.Tighter(a, untold); got != a {
			t.Errorf("Tighter of %+v with what is not told: %+v", a, got)
		}
		// All pairs, in one order of both.
		for _, b := range controls[i:] {
			got := impl.Tighter(a, b)
			if got != plainTighter(a, b) || impl.Tighter(b, a) != got {
				t.Fatalf("Tighter(%+v, %+v): %+v, and the other way around %+v, not %+v", a, b, got, impl.Tighter(b, a), plainTighter(a, b))
			}
			if !isAsTight(got, a) || !isAsTight(got, b) || !impl.ControlOk(got) {
				t.Fatalf("Tighter(%+v, %+v): %+v is not as tight as both", a, b, got)
			}
			if impl.Tighter(got, a) != got || impl.Tighter(b, got) != got {
				t.Fatalf("Tighter(%+v, %+v): %+v becomes another with one of them once more", a, b, got)
			}
		}
	}
}

// What is as tight as both is as tight as the answer, too.
func TestTighterIsNoTighterThanItMust(t *testing.T) {
	controls := controlsOf(-1, 0, 9)
	source := rand.New(rand.NewSource(94))
	among := 0
	for range 100000 {
		a, b, c := controls[source.Intn(len(controls))], controls[source.Intn(len(controls))], controls[source.Intn(len(controls))]
		c = impl.Tighter(impl.Tighter(a, b), c)
		if !isAsTight(c, a) || !isAsTight(c, b) || !isAsTight(c, impl.Tighter(a, b)) {
			t.Fatalf("%+v is not as tight as %+v and %+v", c, a, b)
		}
		if x := controls[source.Intn(len(controls))]; isAsTight(x, a) && isAsTight(x, b) {
			among++
			if !isAsTight(x, impl.Tighter(a, b)) {
				t.Fatalf("%+v is as tight as %+v and %+v, but not as %+v", x, a, b, impl.Tighter(a, b))
			}
		}
	}
	if among < 1000 {
		t.Errorf("%d only were as tight as both", among)
	}
}

func TestTighterOfWrongControls(t *testing.T) {
	right := controlsOf(-1, 0, second)
	for i, wrong := range wrongControls() {
		c := right[i%len(right)]
		checkTighter(t, wrong, c, impl.Control{})
		checkTighter(t, wrong, untold, impl.Control{})
		checkTighter(t, wrong, wrong, impl.Control{})
		checkTighter(t, wrong, flagsTold(15), impl.Control{})
	}
	for _, out := range outSeconds {
		for _, other := range outSeconds {
			checkTighter(t, numbersTold(out, 5, 5), numbersTold(5, 5, other), impl.Control{})
			checkTighter(t, numbersTold(5, out, 5), numbersTold(other, 5, 5), impl.Control{})
			checkTighter(t, numbersTold(5, 5, out), numbersTold(5, other, 5), impl.Control{})
			checkTighter(t, numbersTold(out, 5, 5), numbersTold(other, 5, 5), impl.Control{})
		}
	}
}

func TestControlAnswersAreNewMemory(t *testing.T) {
	for i, given := range append(rightControls(), wrongControls()...) {
		a, b := given, flagsTold(i%16)
		other := b
		impl.ControlOk(a)
		shown := impl.ShowControl(a)
		again := impl.ShowControl(a)
		impl.Tighter(a, b)
		impl.Tighter(b, a)
		if a != given || b != other || again != shown {
			t.Errorf("%+v became %+v, or %+v, or was shown as %q and %q", given, a, b, shown, again)
		}
	}
	for _, text := range []string{"max-age=5, private", "MAX-AGE=5, Private, x=\"A, b\"", " no-store ", "x\xff", "", "max-stale"} {
		s := strings.Clone(text)
		first := impl.ReadControl(s)
		kept := first
		for _, number := range numbersOf(&first) {
			*number = 77
		}
		for _, flag := range flagsOf(&first) {
			*flag = true
		}
		// What was read first and changed since is nothing that is read again.
		if s != text || impl.ReadControl(s) != kept || impl.ReadControl("") != untold {
			t.Errorf("%q became %q, or is read as %+v, then as %+v", text, s, kept, impl.ReadControl(s))
		}
		if shown := impl.ShowControl(impl.ReadControl(s)); sharesMemory(shown, s) {
			t.Errorf("ShowControl of ReadControl(%q) shares memory with it", s)
		}
	}
}

// Each function answers, the same twice, whatever it is given.
func TestControlFunctionsAnswerAtEveryArgument(t *testing.T) {
	texts := append(append(hugeTexts(), oddTexts...), mixedTexts(500, 60)...)
	texts = append(append(texts, notDirectives()...), textsOf("\x00\"=,\xff", 3)...)
	for _, s := range []string{"\"", "max-age=5,", "\\", "\"\\", "no-store, ", ",", "=", "max-stale"} {
		texts = append(texts, strings.Repeat(s, 50000), strings.Repeat(s, 400/len(s)))
	}
	for _, s := range texts {
		want := plainReadControl(s)
		if got, again := impl.ReadControl(s), impl.ReadControl(s); got != want || again != want {
			t.Fatalf("ReadControl(%.60q): %+v, %+v, not %+v", s, got, again, want)
		}
	}
	for i, c := range controlsOf(-2, -1, 0, second, second+1, greatest, least) {
		ok := controlIs(c)
		if impl.ControlOk(c) != ok || impl.ShowControl(c) != plainShowControl(c) || impl.Tighter(c, c) != plainTighter(c, c) {
			t.Fatalf("%+v: ControlOk %v, shown %q, with itself %+v", c, impl.ControlOk(c), impl.ShowControl(c), impl.Tighter(c, c))
		}
		other := flagsTold(i % 16)
		if impl.Tighter(c, other) != plainTighter(c, other) || impl.Tighter(other, c) != plainTighter(c, other) {
			t.Fatalf("Tighter(%+v, %+v): %+v", c, other, impl.Tighter(c, other))
		}
	}
}
