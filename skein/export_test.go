package skein

// GiveUp does by hand to a stream what Tick will do to one that stands still, as long as it does not.
func (e *End) GiveUp(stream int) { e.streams[stream].CloseReceiving() }
