package merkle_test

// What another program made of the chapter's words.
const (
	knownDigest  = "0ab167dc8258c415b14a9370bb85229da37092a0115191db3f12ab2eaccbf597"
	knownEmpty   = "9081f8ba4fdcea60b6f853385344ddbc1d8b2474b145cf0e66e30a9a3031a5b8"
	knownThree   = "ff8210f8db539846d1db2f92e8eef1a27f65991c041017dc294a5673335fa915"
	knownNothing = "b1a1d1186bb23070f3f9ba649e6c8c6f022046577bcb76d8b5197844aedc1a60"
	knownFile    = "1bc691b0a5e8528f3de134d1cbca0fcf53f606a7f83cafc55c38f579f4636be1"
)
