// Package batch: several writes of a transaction, all of them or none.
package batch

import (
	"handbill/api"
	"handbill/txn"
	"handbill/vers"
)

// Do writes all of l, or nothing, if the transaction has an error for one of them: the first one's.
func Do(t *txn.Txn, l []api.Write) api.Errno {
	if len(l) > 1 {
		if e := tried(t, l); e != api.OK {
			return e
		}
	}
	return write(t, l)
}

// tried tells what the transaction would answer. It cannot take back what is written, so that one beside it is asked.
func tried(t *txn.Txn, l []api.Write) api.Errno {
	beside := txn.Begin(vers.New[string](), t.At())
	if e := write(beside, t.Writes()); e != api.OK {
		return e
	}
	return write(beside, l)
}

func write(t *txn.Txn, l []api.Write) api.Errno {
	for _, w := range l {
		e := api.OK
		if w.Gone {
			e = t.Delete(w.Key)
		} else {
			e = t.Put(w.Key, w.Value)
		}
		if e != api.OK {
			return e
		}
	}
	return api.OK
}
