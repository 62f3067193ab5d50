package maker

// The entries of a dynamic section that are said. By a thing's name alone: where it begins; with Size: how many bytes it has; with One: how many each of its records has.
const (
	tagEnd = 0

	tagNeeded  = 1
	tagSoname  = 14
	tagRunpath = 29

	tagStrings     = 5
	tagStringsSize = 10
	tagSymtab      = 6
	tagSymtabOne   = 11
	tagHash        = 4
	tagGnuHash     = 0x6ffffef5

	tagRela     = 7
	tagRelaSize = 8
	tagRelaOne  = 9
	tagRel      = 17
	tagRelSize  = 18
	tagRelOne   = 19
	tagRelr     = 36
	tagRelrSize = 35
	tagRelrOne  = 37

	tagPacked         = 0x6000000f
	tagPackedSize     = 0x60000010
	tagPackedRela     = 0x60000011
	tagPackedRelaSize = 0x60000012

	tagInit     = 25
	tagInitSize = 27
	tagFini     = 26
	tagFiniSize = 28

	tagFlags  = 30
	tagFlags1 = 0x6ffffffb

	tagVersym   = 0x6ffffff0
	tagVerdef   = 0x6ffffffc
	tagVerdefs  = 0x6ffffffd
	tagVerneed  = 0x6ffffffe
	tagVerneeds = 0x6fffffff
)

const (
	flagSymbolic = 2 // of tagFlags
	flagGlobal   = 2 // of tagFlags1
	flagNodelete = 8

	relaSize = 24
	relSize  = 16
	relrSize = 8
)
