package view_test

import (
	"bytes"
	"fmt"
	"slices"
	"strings"
	"testing"

	"spence/api"
)

// P14.4: a key has the value that it was noted with last; notes are told in order by their keys' bytes, and may go.
func TestNote(t *testing.T) {
	v, p := viewOf(t, quota(0, 400), quota(0, 400)), plainOf(quota(0, 400), quota(0, 400))
	keys := []string{"b", "a", "ab", "aa", "\x00", "\xff", "a\x00", "ä", "A", " ", "a\xff", strings.Repeat("k", 61), strings.Repeat("k", 62), "r1", "o1-x", "\xff\xff"}
	for i, key := range keys {
		for _, val := range [][]byte{{byte(i)}, nil, {}, bytes.Repeat([]byte{byte(i)}, 2048), {0, byte(i)}} {
			wantError(t, "Note "+key, v.Note(1, key, val), api.OK)
			wantError(t, "Note after the chapter", p.note(1, key, val), api.OK)
			p.wantAlike(t, "Note "+key, v, keys...)
		}
	}
	for _, key := range keys {
		wantError(t, "Unnote "+key, v.Unnote(1, key), api.OK)
		wantError(t, "Unnote again", v.Unnote(1, key), api.ErrNone)
		p.unnote(1, key)
		p.wantAlike(t, "Unnote "+key, v, keys...)
	}
}

// P14.4: Notes are those whose keys begin with a prefix, and no others, in order.
func TestNotes(t *testing.T) {
	v := viewOf(t, quota(0, 400), quota(0, 400))
	for i, key := range []string{"b", "ab", "a", "abc", "a\xff", "ac", "B", "\xffa", "a\x00"} {
		wantError(t, "Note", v.Note(1, key, []byte{byte(i)}), api.OK)
	}
	wantNotes(t, "all", v, 1, "", row("B", 6), row("a", 2), row("a\x00", 8), row("ab", 1), row("abc", 3), row("ac", 5), row("a\xff", 4), row("b", 0), row("\xffa", 7))
	wantNotes(t, "a", v, 1, "a", row("a", 2), row("a\x00", 8), row("ab", 1), row("abc", 3), row("ac", 5), row("a\xff", 4))
	wantNotes(t, "ab", v, 1, "ab", row("ab", 1), row("abc", 3))
	wantNotes(t, "abc", v, 1, "abc", row("abc", 3))
	wantNotes(t, "a\xff", v, 1, "a\xff", row("a\xff", 4))
	wantNotes(t, "\xff", v, 1, "\xff", row("\xffa", 7))
	for _, none := range []string{"abcd", "c", "aB", "\x00", "bb", strings.Repeat("a", 62), strings.Repeat("a", 63), strings.Repeat("a", 5000)} {
		wantNotes(t, none, v, 1, none)
	}
	wantNotes(t, "another user's", v, 2, "")
}

// P14.4: Note tells ErrArg of a key that is empty or longer than 62 bytes, ErrLong of a value longer than 2048, in this order, ahead of ErrQuota.
func TestNoteWrong(t *testing.T) {
	v, p := viewOf(t, quota(0, 2)), plainOf(quota(0, 2))
	long := bytes.Repeat([]byte{1}, 2049)
	v.Note(1, "a", []byte{1})
	p.note(1, "a", []byte{1})
	for range 2 {
		for _, key := range []string{"", strings.Repeat("k", 63), strings.Repeat("k", 64), strings.Repeat("k", 65), strings.Repeat("k", 100000)} {
			wantError(t, "a wrong key", v.Note(1, key, nil), api.ErrArg)
			wantError(t, "a wrong key, a long value", v.Note(1, key, long), api.ErrArg)
			wantError(t, "no user", v.Note(2, key, long), api.ErrUser)
			wantError(t, "Unnote", v.Unnote(1, key), api.ErrNone)
		}
		for _, key := range []string{"a", "c"} {
			wantError(t, "a long value", v.Note(1, key, long), api.ErrLong)
			wantError(t, "a longer one", v.Note(1, key, make([]byte, 100000)), api.ErrLong)
			wantError(t, "no user", v.Note(2, key, long), api.ErrUser)
		}
		p.wantAlike(t, "wrong", v)
		v.Note(1, "b", []byte{2})
		p.note(1, "b", []byte{2})
	}
	wantError(t, "one more", v.Note(1, "c", nil), api.ErrQuota)
	wantError(t, "one that is there", v.Note(1, "b", long[:2048]), api.OK)
}

// P14.4: as many notes as a quota has may be had, and one that goes makes room for one.
func TestNoteQuota(t *testing.T) {
	for _, many := range []int{0, 1, 2, 399, 400} {
		q := []api.Quota{quota(100, many), quota(0, 400)}
		v, p := viewOf(t, q...), plainOf(q...)
		for i := range many + 3 {
			key, w := fmt.Sprintf("k%d", 7*i%409), api.OK
			if i >= many {
				w = api.ErrQuota
			}
			wantError(t, "Note", v.Note(1, key, []byte(key)), w)
			wantError(t, "Note after the chapter", p.note(1, key, []byte(key)), w)
		}
		p.wantAlike(t, "full", v, "k1", "k40")
		if many == 0 {
			wantError(t, "Unnote", v.Unnote(1, "k0"), api.ErrNone)
			continue
		}
		wantError(t, "one that is there", v.Note(1, "k0", nil), api.OK)
		wantError(t, "one goes", v.Unnote(1, "k0"), api.OK)
		wantError(t, "it goes again", v.Unnote(1, "k0"), api.ErrNone)
		wantError(t, "one comes", v.Note(1, "m", nil), api.OK)
		wantError(t, "one more", v.Note(1, "k0", nil), api.ErrQuota)
		p.unnote(1, "k0")
		p.note(1, "m", nil)
		p.wantAlike(t, "full again", v, "k1", "k40")
	}
}

// P14.4, P14.2: keys are each user's own; of one that there is not it is ErrUser, none.
func TestNoteUsers(t *testing.T) {
	v := viewOf(t, slices.Repeat([]api.Quota{quota(0, 1)}, 8)...)
	for who := 1; who <= 8; who++ {
		wantError(t, "Note", v.Note(who, "a", []byte{byte(who)}), api.OK)
	}
	for who := 2; who <= 8; who += 2 {
		wantError(t, "Unnote", v.Unnote(who, "a"), api.OK)
	}
	for who := 1; who <= 8; who++ {
		var w []api.Row
		if who%2 == 1 {
			w = []api.Row{row("a", byte(who))}
		}
		wantNotes(t, "each one's own", v, who, "", w...)
	}
	for _, who := range noUsers {
		if 1 <= who && who <= 8 {
			continue
		}
		wantError(t, "Note", v.Note(who, "a", nil), api.ErrUser)
		wantError(t, "a wrong Note", v.Note(who, "", make([]byte, 2049)), api.ErrUser)
		wantError(t, "Unnote", v.Unnote(who, "a"), api.ErrUser)
		wantError(t, "Unnote of none", v.Unnote(who, ""), api.ErrUser)
		wantNotes(t, "Notes", v, who, "")
	}
}

// P14.3, P14.4: roots and notes are apart: one's name is no key of the other, and each has a quota of its own.
func TestRootsAndNotes(t *testing.T) {
	v := viewOf(t, quota(1, 1))
	wantError(t, "Root", v.Root(1, "a", pathOf(1, "x")), api.OK)
	wantNotes(t, "no note yet", v, 1, "")
	wantError(t, "Unnote", v.Unnote(1, "a"), api.ErrNone)
	wantError(t, "Note", v.Note(1, "a", []byte{1}), api.OK)
	wantError(t, "a second note", v.Note(1, "b", nil), api.ErrQuota)
	wantError(t, "a second root", v.Root(1, "b", pathOf(1, "x")), api.ErrQuota)
	wantUnroot(t, "Unroot", v, 1, "a", pathOf(1, "x"), api.OK)
	wantNotes(t, "the note stays", v, 1, "", row("a", 1))
	wantError(t, "still a second note", v.Note(1, "b", nil), api.ErrQuota)
}
