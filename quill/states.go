package quill

import "quill/api"

// state is what a client does when something happens: when it edits, when an entry comes, and
// when the answer comes.
type state struct {
	number int
	edit   func(*client, []api.Part)
	entry  func(*client, []api.Part)
	answer func(*client)
}

// states, by their numbers: init fills them, since what is done in one state names the next one.
var states [api.Buffered + 1]state

func init() {
	// Nothing happens to a client that is Away, and nothing is answered to one that has sent nothing.
	noOp := func(*client, []api.Part) {}
	noAnswer := func(*client) {}
	states = [api.Buffered + 1]state{
		api.Away:     {api.Away, noOp, noOp, noAnswer},
		api.Calm:     {api.Calm, (*client).send, (*client).follow, noAnswer},
		api.Waiting:  {api.Waiting, (*client).hold, (*client).passSent, (*client).rest},
		api.Buffered: {api.Buffered, (*client).gather, (*client).passBoth, (*client).sendBuffer},
	}
}
