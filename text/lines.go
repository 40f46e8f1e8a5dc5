package text

import (
	"bytes"
	"iter"
	"strings"

	"spence/api"
	"spence/base"
)

// The first word of a line is its kind.
const (
	ofDrv   = "drv"
	ofSrc   = "src"
	ofClass = "class"
	ofRun   = "run"
)

const (
	// blank parts a line's words.
	blank = " "
	// feed ends a line.
	feed = '\n'
)

// line is that of words.
func line(words ...string) string {
	return strings.Join(words, blank) + string(feed)
}

// lines goes through the words of lines; it throws a rest that is not ended.
func lines(b []byte) iter.Seq[[]string] {
	return func(yield func([]string) bool) {
		for left := b; len(left) > 0; {
			end := bytes.IndexByte(left, feed)
			need(end >= 0)
			if !yield(strings.Split(string(left[:end]), blank)) {
				return
			}
			left = left[end+1:]
		}
	}
}

// textOf is the text of a derivation that can be written, however long it is.
func textOf(d api.Drv) string {
	text := line(ofDrv, d.Name)
	for _, x := range d.Inputs {
		text += inputLine(x)
	}
	return text + line(ofRun, digitsOf(d.Recipe))
}

// inputLine is the line of an input that is right.
func inputLine(x api.Named) string {
	if x.Input.Is {
		return line(ofClass, x.Name, base.Letters(x.Input.Class))
	}
	// An object that is right has a name, and so its path has a text.
	path, _ := base.Path(x.Input.Src)
	return line(ofSrc, x.Name, path)
}
