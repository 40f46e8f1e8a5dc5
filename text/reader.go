package text

import (
	"spence/api"
	"spence/base"
)

// noText is thrown of what is no text.
const noText = api.ErrShape

// reader is a derivation under way, as its text's lines tell it.
type reader struct {
	api.Drv
	// next are the kinds of lines of which one comes next; behind the last line there are none.
	next []string
}

// drvOf is the derivation whose text b is.
func drvOf(b []byte) (d api.Drv, e api.Errno) {
	defer func() {
		if recover() != nil {
			e = noText
		}
	}()
	r := &reader{next: []string{ofDrv}}
	r.read(b)
	need(Can(r.Drv))
	return r.Drv, api.OK
}

// need throws what is no text.
func need(ok bool) {
	if !ok {
		panic(noText)
	}
}

// kinds are the kinds of lines: what is done with the words behind the first one.
func kinds() map[string]func(*reader, ...string) {
	return map[string]func(*reader, ...string){
		ofDrv:   (*reader).drv,
		ofSrc:   (*reader).src,
		ofClass: (*reader).class,
		ofRun:   (*reader).run,
	}
}

// read reads all lines.
func (r *reader) read(b []byte) {
	known := kinds()
all:
	for words := range lines(b) {
		for _, kind := range r.next {
			if words[0] == kind {
				known[kind](r, words[1:]...)
				continue all
			}
		}
		panic(noText)
	}
	need(len(r.next) == 0)
}

// drv reads the name.
func (r *reader) drv(words ...string) {
	need(len(words) == 1)
	r.Name = words[0]
	r.next = []string{ofSrc, ofClass, ofRun}
}

// src reads an input that is an object.
func (r *reader) src(words ...string) {
	need(len(words) == 2)
	p, e := base.Parse(words[1])
	need(e == api.OK)
	r.input(words[0], api.Input{Src: p})
}

// class reads an input that is a class.
func (r *reader) class(words ...string) {
	need(len(words) == 2)
	h, e := base.Hash(words[1])
	need(e == api.OK)
	r.input(words[0], api.Input{Class: h, Is: true})
}

// input has one more input.
func (r *reader) input(name string, x api.Input) {
	r.Inputs = append(r.Inputs, api.Named{Name: name, Input: x})
}

// run reads the recipe.
func (r *reader) run(words ...string) {
	need(len(words) == 1)
	r.Recipe = bytesOf(words[0])
	r.next = nil
}
