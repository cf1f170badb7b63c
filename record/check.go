package record

import "cresset/api"

// Key tells why s is no key.
func Key(s string) api.Errno {
	if s == "" || len(s) > api.MaxKey {
		return api.ErrKey
	}
	return api.OK
}

// Value tells why s is no value.
func Value(s string) api.Errno {
	if len(s) > api.MaxValue {
		return api.ErrValue
	}
	return api.OK
}

// CheckWrite tells why w is no write.
func CheckWrite(w api.Write) api.Errno {
	if e := checkPair(w.Key, w.Value); e != api.OK {
		return e
	}
	if w.Del && w.Value != "" {
		return api.ErrField
	}
	return api.OK
}

// CheckCommit tells why c is no commit.
func CheckCommit(c api.Commit) api.Errno {
	if !within(c.TS, 1, api.MaxTS) || len(c.Writes) == 0 || len(c.Writes) > api.MaxWrites {
		return api.ErrField
	}
	ahead := "" // below every key
	for _, w := range c.Writes {
		if e := CheckWrite(w); e != api.OK {
			return e
		}
		if w.Key <= ahead {
			return api.ErrField
		}
		ahead = w.Key
	}
	return api.OK
}

// CheckChunk tells why c is no chunk.
func CheckChunk(c api.Chunk) api.Errno {
	if !within(int64(c.Number), 0, api.MaxChunks-1) || len(c.List) > api.MaxChunk {
		return api.ErrField
	}
	ahead := "" // below every key
	for _, s := range c.List {
		if e := checkPair(s.Key, s.Value); e != api.OK {
			return e
		}
		if !within(s.TS, 1, api.MaxTS) || s.Key <= ahead {
			return api.ErrField
		}
		ahead = s.Key
	}
	return api.OK
}

// CheckMaster tells why m is no master.
func CheckMaster(m api.Master) api.Errno {
	fits := within(m.Seq, 1, api.MaxTS) &&
		within(int64(m.Area), 0, 1) &&
		within(int64(m.Chunks), 1, api.MaxChunks) &&
		within(m.TS, 0, api.MaxTS) &&
		markFits(m.Mark)
	if !fits {
		return api.ErrField
	}
	return api.OK
}

func markFits(m api.Mark) bool {
	return within(m.Sector, 0, api.MaxTS) &&
		within(int64(m.Offset), 0, api.Sector-1) &&
		within(m.Number, 0, api.MaxTS) &&
		within(m.Run, 0, api.MaxTS)
}

// checkPair tells why there is no such key, or no such value; the key's error comes first.
func checkPair(key, value string) api.Errno {
	if e := Key(key); e != api.OK {
		return e
	}
	return Value(value)
}

func within(n, least, most int64) bool { return least <= n && n <= most }
