package hist_test

import "testing"

func TestTheClock(t *testing.T) {
	holds(t, []row{
		{"no call", "", []int{}},
		{"one behind the other", "0+l1 0-no 1+l1 1-no 0+l1 0-no", []int{0, 2, 4}},
		{"one in another", "0+l1 1+l1 1-no 0-no", []int{0, 1}},
		{"crossed", "0+l1 1+l1 0-no 1-no", []int{0, 1}},
		{"begun between", "0+l1 1+s 0-no 0+l2 1-all: 0-no", []int{0, 1, 3}},
		{"it ends right ahead of the other's beginning", "0+l1 0-no 1+p1=a 1-ok", []int{0, 2}},
		{"it begins right ahead of the other's end", "1+p1=a 0+l1 1-ok 0-no", []int{1, 0}},
		{"of one client", "0+p1=a 0-ok 0+l1 0-no", nil},
		{"of one client, the other way round", "0+l1 0-ok=a 0+p1=a 0-ok", nil},
	})
}

func TestOnePublishIsOk(t *testing.T) {
	holds(t, []row{
		{"one", "0+p1=a 0-ok", []int{0}},
		{"two of one key", "0+p1=a 1+p1=b 0-ok 1-ok", nil},
		{"two of one key, the same value", "0+p1=a 1+p1=a 0-ok 1-ok", nil},
		{"two of one key, one behind the other", "0+p1=a 0-ok 1+p1=b 1-ok", nil},
		{"two of one client", "0+p1=a 0-ok 0+p1=a 0-ok", nil},
		{"two of one key, and both values are found", "0+p1=a 0-ok 1+l1 1-ok=a 0+p1=b 0-ok 1+l1 1-ok=b", nil},
		{"two of one key, far apart", "0+p1=a 1+p2=a 2+p1=b 0-ok 1-ok 2-ok", nil},
		{"two keys", "0+p1=a 1+p2=a 0-ok 1-ok", []int{0, 1}},
		{"a key and the one below 0", "0+p1=a 1+p-1=a 1-ok 0-ok", []int{0, 1}},
		{"keys of one stripe", "0+p1=a 1+p9=a 2+p-7=a 0-ok 1-ok 2-ok", []int{0, 1, 2}},
	})
}

func TestAPublishThatIsNotOk(t *testing.T) {
	holds(t, []row{
		{"none is Ok", "0+p1=a 0-no", nil},
		{"two, and none is Ok", "0+p1=a 1+p1=b 0-no 1-no", nil},
		{"another key's is Ok", "0+p2=a 0-ok 1+p1=a 1-no", nil},
		{"it stands behind", "0+p1=a 0-ok 1+p1=b 1-no", []int{0, 2}},
		{"it began first", "0+p1=b 1+p1=a 1-ok 0-no", []int{1, 0}},
		{"the same value", "0+p1=a 1+p1=a 1-ok 0-no", []int{1, 0}},
		{"it was over before", "0+p1=b 0-no 1+p1=a 1-ok", nil},
		{"many of them", "0+p1=a 1+p1=b 2+p1=c 3+p1=d 0-no 1-no 2-ok 3-no", []int{2, 0, 1, 3}},
		{"one of them was over before", "0+p1=a 1+p1=b 0-no 2+p1=c 1-no 2-ok", nil},
		{"it says nothing of other keys", "0+p2=a 0-ok 1+p1=b 2+p1=c 2-ok 1-no", []int{0, 3, 2}},
	})
}

func TestALookupThatIsOk(t *testing.T) {
	holds(t, []row{
		{"the value", "0+p1=a 0-ok 1+l1 1-ok=a", []int{0, 2}},
		{"the empty value", "0+p1= 0-ok 1+l1 1-ok=", []int{0, 2}},
		{"it began first", "0+l1 1+p1=a 1-ok 0-ok=a", []int{1, 0}},
		{"it was over before", "0+l1 0-ok=a 1+p1=a 1-ok", nil},
		{"nobody has published", "0+l1 0-ok=a", nil},
		{"nobody has published, the empty value", "0+l1 0-ok=", nil},
		{"a value that nobody has published", "0+p1=a 0-ok 1+l1 1-ok=b", nil},
		{"the empty value, which nobody has published", "0+p1=a 0-ok 1+l1 1-ok=", nil},
		{"a value in the place of the empty one", "0+p1= 0-ok 1+l1 1-ok=a", nil},
		{"that of a Publish that is not Ok", "0+p1=a 0-ok 1+p1=b 1-no 2+l1 2-ok=b", nil},
		{"that of a Publish that is not Ok, all at one time", "0+p1=a 1+p1=b 2+l1 0-ok 1-no 2-ok=b", nil},
		{"that of the one that is Ok, while the other was first", "0+p1=b 1+l1 2+p1=a 0-no 1-ok=a 2-ok", []int{2, 0, 1}},
		{"another key's", "0+p2=b 0-ok 0+p1=a 0-ok 1+l1 1-ok=b", nil},
		{"another key's alone", "0+p2=a 0-ok 1+l1 1-ok=a", nil},
	})
}

func TestALookupThatIsNotOk(t *testing.T) {
	holds(t, []row{
		{"nobody publishes", "0+l1 0-no", []int{0}},
		{"ahead of it", "0+l1 0-no 1+p1=a 1-ok", []int{0, 2}},
		{"it began later", "0+p1=a 1+l1 1-no 0-ok", []int{1, 0}},
		{"it began when it was over", "0+p1=a 0-ok 1+l1 1-no", nil},
		{"of another key", "0+p2=a 0-ok 1+l1 1-no", []int{0, 2}},
		{"ahead of it and of those that are not Ok", "0+p1=a 1+p1=b 2+l1 0-no 1-ok 2-no", []int{2, 1, 0}},
		{"behind one that is not Ok", "0+p1=a 1+p1=b 1-no 2+l1 2-no 0-ok", nil},
		{"behind one that was found", "0+p1=a 1+l1 1-ok=a 2+l1 2-no 0-ok", nil},
		{"found behind it", "0+p1=a 1+l1 1-no 2+l1 2-ok=a 0-ok", []int{1, 0, 3}},
	})
}

func TestASnapshot(t *testing.T) {
	holds(t, []row{
		{"of nothing", "0+s 0-all:", []int{0}},
		{"ahead of it", "0+s 0-all: 1+p1=a 1-ok", []int{0, 2}},
		{"it began later", "0+p1=a 1+s 1-all: 0-ok", []int{1, 0}},
		{"it began when it was over", "0+p1=a 0-ok 1+s 1-all:", nil},
		{"with it", "0+p1=a 0-ok 1+s 1-all:1=a", []int{0, 2}},
		{"with it, though it began first", "0+s 1+p1=a 1-ok 0-all:1=a", []int{1, 0}},
		{"with it, though it was over before", "0+s 0-all:1=a 1+p1=a 1-ok", nil},
		{"with what nobody has published", "0+s 0-all:1=a", nil},
		{"with another value", "0+p1=a 0-ok 1+s 1-all:1=b", nil},
		{"with the empty value", "0+p1=a 0-ok 1+s 1-all:1=", nil},
		{"with the value of one that is not Ok", "0+p1=a 0-ok 1+p1=b 1-no 2+s 2-all:1=b", nil},
		{"with two values taken the one for the other", "0+p1=a 0-ok 0+p2=b 0-ok 1+s 1-all:1=b,2=a", nil},
		{"with another key", "0+p1=a 0-ok 1+s 1-all:2=a", nil},
		{"with one more key", "0+p1=a 0-ok 1+s 1-all:1=a,2=a", nil},
		{"with one more key ahead of it", "0+p1=a 0-ok 1+s 1-all:0=,1=a", nil},
		{"with all", "0+p1=a 1+p2=b 2+p3=c 3+s 0-ok 1-ok 2-ok 3-all:1=a,2=b,3=c", []int{0, 1, 2, 3}},
		{"with the first", "0+p1=a 1+p2=b 2+p3=c 3+s 0-ok 1-ok 2-ok 3-all:1=a", []int{0, 3, 1, 2}},
		{"with the middle", "0+p1=a 1+p2=b 2+p3=c 3+s 0-ok 1-ok 2-ok 3-all:2=b", []int{1, 3, 0, 2}},
		{"with the last", "0+p1=a 1+p2=b 2+p3=c 3+s 0-ok 1-ok 2-ok 3-all:3=c", []int{2, 3, 0, 1}},
		{"without the middle", "0+p1=a 1+p2=b 2+p3=c 3+s 0-ok 1-ok 2-ok 3-all:1=a,3=c", []int{0, 2, 3, 1}},
		{"without any", "0+p1=a 1+p2=b 2+p3=c 3+s 0-ok 1-ok 2-ok 3-all:", []int{3, 0, 1, 2}},
		{"keys below 0", "0+p-1=a 1+p-2=b 2+s 0-ok 1-ok 2-all:-2=b,-1=a", []int{0, 1, 2}},
		{"of one below 0 alone", "0+p-1=a 1+p-2=b 2+s 0-ok 1-ok 2-all:-2=b", []int{1, 2, 0}},
		{"with a key behind one that is not Ok", "0+p1=a 1+s 2+p1=b 0-no 1-all:1=b 2-ok", []int{2, 0, 1}},
		{"two, more in the second", "0+s 1+s 2+p1=a 0-all:1=a 1-all: 2-ok", []int{1, 2, 0}},
		{"two, more in the one that was over", "0+s 0-all: 1+p1=a 2+s 2-all:1=a 0+s 0-all: 1-ok", nil},
	})
}

// The least order is not the one that each call's own moments would give, nor that of the fewest turns.
func TestTheLeastOrder(t *testing.T) {
	holds(t, []row{
		{"as they began, whatever ended first", "5+l1 3+l1 4+l1 1+l1 1-no 4-no 3-no 5-no", []int{0, 1, 2, 3}},
		{"places, not clients", "9+p1=a 0+p2=a 0-ok 9-ok", []int{0, 1}},
		{"behind who waits the least goes on", "0+l1 1+l2 2+p1=a 3+p2=d 0-ok=a 1-no 2-ok 3-ok", []int{1, 2, 0, 3}},
		{"two wait for two", "0+l1 1+l2 2+p2=b 3+p1=a 0-ok=a 1-ok=b 2-ok 3-ok", []int{2, 1, 3, 0}},
		{"who waits goes on at once", "0+l1 1+p1=a 2+l3 3+l4 0-ok=a 1-ok 2-no 3-no", []int{1, 0, 2, 3}},
		{"who waits for the last is the last", "0+l9 1+l2 2+l3 3+p9=z 0-ok=z 1-no 2-no 3-ok", []int{1, 2, 3, 0}},
		{"a Snapshot takes the least of those that may stand ahead", "0+p1=a 1+s 2+p2=b 0-ok 1-all:2=b 2-ok", []int{2, 1, 0}},
		{"places with ends between them", "0+l1 1+l2 1-no 1+p1=a 2+l3 0-ok=a 2-no 1-ok", []int{1, 3, 0, 4}},
		{"one waits for one that waits for one", "0+p1=b 1+p1=c 2+s 3+p1=a 4+p2=d 0-no 1-no 2-all:1=a,2=d 3-ok 4-ok", []int{3, 0, 1, 4, 2}},
	})
}
