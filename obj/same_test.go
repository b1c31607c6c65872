package obj

import (
	"reflect"
	"testing"

	"synchrony/api"
)

// TestSame is P22.5: a change of any part makes other object code.
func TestSame(t *testing.T) {
	o := objects(counter(), pairClass(), wide(by("b", nil, seq(call("i", "x", v("a"), either(v("b"), number(1), number(2))))), reset("g"), store("m", number(1))), api.Class{})
	o.Classes[0].In[0].Clock = []api.On{{Name: "c", T: 1, Tag: 1}}
	if !Same(o, o) || !Same(o, deepCopy(o)) || !Same(api.Objects{}, api.Objects{Enums: []api.Enum{}, Classes: []api.Class{}}) {
		t.Error("equal object code is not the same")
	}
	changed, changes := deepCopy(o), 0
	spoil(reflect.ValueOf(&changed).Elem(), func() {
		changes++
		if equal := reflect.DeepEqual(changed, o); Same(changed, o) != equal || Same(o, changed) != equal {
			t.Errorf("%v and %v: Same is %v", o, changed, Same(o, changed))
		}
	})
	if changes < 300 || !Same(changed, o) {
		t.Errorf("there are %d changes", changes)
	}
	empty := deepCopy(o)
	fill(reflect.ValueOf(&empty).Elem())
	if !Same(o, empty) || !Same(empty, o) || reflect.DeepEqual(o, empty) {
		t.Error("nil and empty lists are not the same")
	}
}

// fill makes empty lists of all lists that are nil.
func fill(v reflect.Value) {
	switch v.Kind() {
	case reflect.Struct:
		for i := range v.NumField() {
			fill(v.Field(i))
		}
	case reflect.Slice:
		if v.IsNil() {
			v.Set(reflect.MakeSlice(v.Type(), 0, 0))
		}
		for i := range v.Len() {
			fill(v.Index(i))
		}
	}
}
