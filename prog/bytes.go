package prog

import "sinnet/api"

const (
	headBytes  = 3 // Vars, Mutexes, how many threads
	instrBytes = 4 // Kind, R, X, N
)

// Print: as bytes.
func Print(p api.Prog) (string, api.Errno) {
	if !Right(p) {
		return "", api.ErrArg
	}
	out := []byte{byte(p.Vars), byte(p.Mutexes), byte(len(p.Threads))}
	for _, code := range p.Threads {
		out = append(out, byte(len(code)))
		for _, in := range code {
			out = append(out, byte(in.Kind), byte(in.R), byte(in.X), byte(in.N))
		}
	}
	return string(out), api.OK
}

// Read: and back.
func Read(s string) (api.Prog, api.Errno) {
	p, rest, e := readProg(s)
	if e != api.OK {
		return api.Prog{}, e
	}
	// Bytes that are missing outrank what the bytes say, so a program is held to be right only when it is whole.
	if rest != "" || !Right(p) {
		return api.Prog{}, api.ErrForm
	}
	return p, api.OK
}

// readProg takes a program from the front of s, whether it may be or not, and answers what is left of s.
func readProg(s string) (api.Prog, string, api.Errno) {
	if len(s) < headBytes {
		return api.Prog{}, "", api.ErrShort
	}
	count := int(s[2])
	if count > api.MaxThreads {
		return api.Prog{}, "", api.ErrForm
	}
	p := api.Prog{Vars: int(s[0]), Mutexes: int(s[1]), Threads: make([][]api.Instr, count)}
	rest := s[headBytes:]
	for i := range p.Threads {
		var e api.Errno
		p.Threads[i], rest, e = readCode(rest)
		if e != api.OK {
			return api.Prog{}, "", e
		}
	}
	return p, rest, api.OK
}

// readCode takes a thread's instructions from the front of s, and answers what is left of s.
func readCode(s string) ([]api.Instr, string, api.Errno) {
	if s == "" {
		return nil, "", api.ErrShort
	}
	count, rest := int(s[0]), s[1:]
	if count > api.MaxCode {
		return nil, "", api.ErrForm
	}
	if len(rest) < count*instrBytes {
		return nil, "", api.ErrShort
	}
	code := make([]api.Instr, count)
	for i := range code {
		code[i] = readInstr(rest)
		rest = rest[instrBytes:]
	}
	return code, rest, api.OK
}

// readInstr takes an instruction from the front of s, which has its bytes.
func readInstr(s string) api.Instr {
	return api.Instr{Kind: int(s[0]), R: int(s[1]), X: int(s[2]), N: int64(int8(s[3]))}
}
