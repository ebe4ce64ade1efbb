package math

import (
	"klaxon/api"
	"klaxon/series"
)

// Eval is the frame of x, with what the frames of env tell for its refs
// (P11.4).
func Eval(x api.Expr, env ...api.Frame) ([]api.Series, api.Errno) {
	switch x.Kind {
	case api.ExprNum:
		return series.Scalar(x.Value), api.OK
	case api.ExprRef:
		return told(x.Name, env)
	case api.ExprCall:
		return done(x, env)
	}
	return nil, api.ErrArg
}

// told is what the last of env tells of this ref.
func told(ref string, env []api.Frame) ([]api.Series, api.Errno) {
	for i := len(env) - 1; i >= 0; i-- {
		if env[i].Ref == ref {
			return series.Sort(env[i].Series...)
		}
	}
	return nil, api.ErrNone
}

// done is what an operation makes of its kids' frames.
func done(x api.Expr, env []api.Frame) ([]api.Series, api.Errno) {
	frames := make([][]api.Series, len(x.Kids))
	for i, kid := range x.Kids {
		frame, err := Eval(kid, env...)
		if err != api.OK {
			return nil, err
		}
		frames[i] = frame
	}
	switch len(frames) {
	case 1:
		return series.Map(x.Name, frames[0]...)
	case 2:
		return series.Join(x.Name, frames[0], frames[1])
	}
	return nil, api.ErrArg
}
