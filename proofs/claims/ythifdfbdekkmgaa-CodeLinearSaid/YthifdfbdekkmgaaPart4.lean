/- The facts of the program with code.sums in one goroutine, under the names that its own have. -/
import Derived.Test.YthifdfbdekkmgaaPart3
import Derived.Shelf.Abstract
set_option linter.unusedVariables false
set_option linter.unusedSimpArgs false
set_option linter.unusedSectionVars false
set_option linter.unnecessarySimpa false
set_option linter.deprecated false
namespace Go.Proofs.Ythifdfbdekkmgaa
set_option linter.unusedVariables false
set_option linter.defProp false
theorem Seq.wi_typeInfo (t : TypeId) (w : World) : (Go.typeInfo t).run Seq.prog w = (Go.typeInfo t).run Try.prog w := wig_typeInfo t w
theorem Seq.wi_sizeOf (t : TypeId) (w : World) : (Go.sizeOf t).run Seq.prog w = (Go.sizeOf t).run Try.prog w := wig_sizeOf t w
theorem Seq.wi_isAgg (t : TypeId) (w : World) : (Go.isAgg t).run Seq.prog w = (Go.isAgg t).run Try.prog w := wig_isAgg t w
theorem Seq.wi_zeroValue (t : TypeId) (w : World) : (Go.zeroValue t).run Seq.prog w = (Go.zeroValue t).run Try.prog w := wig_zeroValue t w
theorem Seq.wi_underlying (t : TypeId) (w : World) : (Go.underlying t).run Seq.prog w = (Go.underlying t).run Try.prog w := wig_underlying t w
theorem Seq.wi_under (t : TypeId) : Seq.prog.underlying t = Try.prog.underlying t := wig_under t
theorem Seq.wi_info (t : TypeId) : Seq.prog.info? t = Try.prog.info? t := wig_info t
attribute [simp] Seq.wi_typeInfo Seq.wi_sizeOf Seq.wi_isAgg Seq.wi_zeroValue Seq.wi_underlying Seq.wi_under
def Seq.underlying0 := (Seq.wi_under 0).trans Try.underlying0
def Seq.underlying1 := (Seq.wi_under 1).trans Try.underlying1
def Seq.underlying2 := (Seq.wi_under 2).trans Try.underlying2
def Seq.underlying3 := (Seq.wi_under 3).trans Try.underlying3
def Seq.underlying4 := (Seq.wi_under 4).trans Try.underlying4
def Seq.underlying5 := (Seq.wi_under 5).trans Try.underlying5
def Seq.underlying6 := (Seq.wi_under 6).trans Try.underlying6
def Seq.underlying7 := (Seq.wi_under 7).trans Try.underlying7
def Seq.underlying8 := (Seq.wi_under 8).trans Try.underlying8
def Seq.underlying9 := (Seq.wi_under 9).trans Try.underlying9
def Seq.underlying10 := (Seq.wi_under 10).trans Try.underlying10
def Seq.underlying11 := (Seq.wi_under 11).trans Try.underlying11
def Seq.underlying12 := (Seq.wi_under 12).trans Try.underlying12
def Seq.underlying13 := (Seq.wi_under 13).trans Try.underlying13
def Seq.underlying14 := (Seq.wi_under 14).trans Try.underlying14
def Seq.underlying15 := (Seq.wi_under 15).trans Try.underlying15
def Seq.underlying16 := (Seq.wi_under 16).trans Try.underlying16
def Seq.underlying17 := (Seq.wi_under 17).trans Try.underlying17
def Seq.underlying18 := (Seq.wi_under 18).trans Try.underlying18
def Seq.underlying19 := (Seq.wi_under 19).trans Try.underlying19
def Seq.underlying20 := (Seq.wi_under 20).trans Try.underlying20
def Seq.underlying21 := (Seq.wi_under 21).trans Try.underlying21
def Seq.underlying22 := (Seq.wi_under 22).trans Try.underlying22
def Seq.underlying23 := (Seq.wi_under 23).trans Try.underlying23
def Seq.underlying24 := (Seq.wi_under 24).trans Try.underlying24
def Seq.underlying25 := (Seq.wi_under 25).trans Try.underlying25
def Seq.underlying26 := (Seq.wi_under 26).trans Try.underlying26
def Seq.underlying27 := (Seq.wi_under 27).trans Try.underlying27
def Seq.underlying28 := (Seq.wi_under 28).trans Try.underlying28
def Seq.underlying29 := (Seq.wi_under 29).trans Try.underlying29
def Seq.underlying30 := (Seq.wi_under 30).trans Try.underlying30
def Seq.underlying31 := (Seq.wi_under 31).trans Try.underlying31
def Seq.underlying32 := (Seq.wi_under 32).trans Try.underlying32
def Seq.underlying33 := (Seq.wi_under 33).trans Try.underlying33
def Seq.underlying34 := (Seq.wi_under 34).trans Try.underlying34
def Seq.underlying35 := (Seq.wi_under 35).trans Try.underlying35
def Seq.underlying36 := (Seq.wi_under 36).trans Try.underlying36
def Seq.underlying37 := (Seq.wi_under 37).trans Try.underlying37
def Seq.underlying38 := (Seq.wi_under 38).trans Try.underlying38
def Seq.underlying39 := (Seq.wi_under 39).trans Try.underlying39
def Seq.underlying40 := (Seq.wi_under 40).trans Try.underlying40
def Seq.underlying41 := (Seq.wi_under 41).trans Try.underlying41
def Seq.underlying42 := (Seq.wi_under 42).trans Try.underlying42
def Seq.underlying43 := (Seq.wi_under 43).trans Try.underlying43
def Seq.underlying44 := (Seq.wi_under 44).trans Try.underlying44
def Seq.underlying45 := (Seq.wi_under 45).trans Try.underlying45
def Seq.underlying46 := (Seq.wi_under 46).trans Try.underlying46
def Seq.underlying47 := (Seq.wi_under 47).trans Try.underlying47
def Seq.underlying48 := (Seq.wi_under 48).trans Try.underlying48
def Seq.underlying49 := (Seq.wi_under 49).trans Try.underlying49
def Seq.underlying50 := (Seq.wi_under 50).trans Try.underlying50
def Seq.underlying51 := (Seq.wi_under 51).trans Try.underlying51
def Seq.underlying52 := (Seq.wi_under 52).trans Try.underlying52
def Seq.underlying53 := (Seq.wi_under 53).trans Try.underlying53
def Seq.underlying54 := (Seq.wi_under 54).trans Try.underlying54
def Seq.underlying55 := (Seq.wi_under 55).trans Try.underlying55
def Seq.underlying56 := (Seq.wi_under 56).trans Try.underlying56
def Seq.underlying57 := (Seq.wi_under 57).trans Try.underlying57
def Seq.underlying58 := (Seq.wi_under 58).trans Try.underlying58
def Seq.underlying59 := (Seq.wi_under 59).trans Try.underlying59
def Seq.underlying60 := (Seq.wi_under 60).trans Try.underlying60
def Seq.underlying61 := (Seq.wi_under 61).trans Try.underlying61
def Seq.underlying62 := (Seq.wi_under 62).trans Try.underlying62
def Seq.underlying63 := (Seq.wi_under 63).trans Try.underlying63
def Seq.underlying64 := (Seq.wi_under 64).trans Try.underlying64
def Seq.underlying65 := (Seq.wi_under 65).trans Try.underlying65
def Seq.underlying66 := (Seq.wi_under 66).trans Try.underlying66
def Seq.underlying67 := (Seq.wi_under 67).trans Try.underlying67
def Seq.underlying68 := (Seq.wi_under 68).trans Try.underlying68
def Seq.underlying69 := (Seq.wi_under 69).trans Try.underlying69
def Seq.underlying70 := (Seq.wi_under 70).trans Try.underlying70
def Seq.underlying71 := (Seq.wi_under 71).trans Try.underlying71
def Seq.underlying72 := (Seq.wi_under 72).trans Try.underlying72
def Seq.underlying73 := (Seq.wi_under 73).trans Try.underlying73
def Seq.underlying74 := (Seq.wi_under 74).trans Try.underlying74
def Seq.underlying75 := (Seq.wi_under 75).trans Try.underlying75
def Seq.underlying76 := (Seq.wi_under 76).trans Try.underlying76
def Seq.underlying77 := (Seq.wi_under 77).trans Try.underlying77
def Seq.underlying78 := (Seq.wi_under 78).trans Try.underlying78
def Seq.underlying79 := (Seq.wi_under 79).trans Try.underlying79
def Seq.underlying80 := (Seq.wi_under 80).trans Try.underlying80
def Seq.underlying81 := (Seq.wi_under 81).trans Try.underlying81
def Seq.underlying82 := (Seq.wi_under 82).trans Try.underlying82
def Seq.underlying83 := (Seq.wi_under 83).trans Try.underlying83
def Seq.underlying84 := (Seq.wi_under 84).trans Try.underlying84
def Seq.underlying85 := (Seq.wi_under 85).trans Try.underlying85
def Seq.underlying86 := (Seq.wi_under 86).trans Try.underlying86
def Seq.underlying87 := (Seq.wi_under 87).trans Try.underlying87
def Seq.underlying88 := (Seq.wi_under 88).trans Try.underlying88
def Seq.underlying89 := (Seq.wi_under 89).trans Try.underlying89
def Seq.underlying90 := (Seq.wi_under 90).trans Try.underlying90
def Seq.underlying91 := (Seq.wi_under 91).trans Try.underlying91
def Seq.underlying92 := (Seq.wi_under 92).trans Try.underlying92
def Seq.underlying93 := (Seq.wi_under 93).trans Try.underlying93
def Seq.underlying94 := (Seq.wi_under 94).trans Try.underlying94
def Seq.underlying95 := (Seq.wi_under 95).trans Try.underlying95
def Seq.underlying96 := (Seq.wi_under 96).trans Try.underlying96
def Seq.underlying97 := (Seq.wi_under 97).trans Try.underlying97
def Seq.underlying98 := (Seq.wi_under 98).trans Try.underlying98
def Seq.underlying99 := (Seq.wi_under 99).trans Try.underlying99
def Seq.underlying100 := (Seq.wi_under 100).trans Try.underlying100
def Seq.underlying101 := (Seq.wi_under 101).trans Try.underlying101
def Seq.underlying102 := (Seq.wi_under 102).trans Try.underlying102
def Seq.underlying103 := (Seq.wi_under 103).trans Try.underlying103
def Seq.underlying104 := (Seq.wi_under 104).trans Try.underlying104
def Seq.underlying105 := (Seq.wi_under 105).trans Try.underlying105
def Seq.underlying106 := (Seq.wi_under 106).trans Try.underlying106
def Seq.underlying107 := (Seq.wi_under 107).trans Try.underlying107
def Seq.underlying108 := (Seq.wi_under 108).trans Try.underlying108
def Seq.underlying109 := (Seq.wi_under 109).trans Try.underlying109
def Seq.underlying110 := (Seq.wi_under 110).trans Try.underlying110
def Seq.underlying111 := (Seq.wi_under 111).trans Try.underlying111
def Seq.underlying112 := (Seq.wi_under 112).trans Try.underlying112
def Seq.underlying113 := (Seq.wi_under 113).trans Try.underlying113
def Seq.underlying114 := (Seq.wi_under 114).trans Try.underlying114
def Seq.underlying115 := (Seq.wi_under 115).trans Try.underlying115
def Seq.underlying116 := (Seq.wi_under 116).trans Try.underlying116
def Seq.underlying117 := (Seq.wi_under 117).trans Try.underlying117
def Seq.underlying118 := (Seq.wi_under 118).trans Try.underlying118
def Seq.underlying119 := (Seq.wi_under 119).trans Try.underlying119
def Seq.underlying120 := (Seq.wi_under 120).trans Try.underlying120
def Seq.underlying121 := (Seq.wi_under 121).trans Try.underlying121
def Seq.underlying122 := (Seq.wi_under 122).trans Try.underlying122
def Seq.underlying123 := (Seq.wi_under 123).trans Try.underlying123
def Seq.underlying124 := (Seq.wi_under 124).trans Try.underlying124
def Seq.underlying125 := (Seq.wi_under 125).trans Try.underlying125
def Seq.underlying126 := (Seq.wi_under 126).trans Try.underlying126
def Seq.underlying127 := (Seq.wi_under 127).trans Try.underlying127
def Seq.underlying128 := (Seq.wi_under 128).trans Try.underlying128
def Seq.underlying129 := (Seq.wi_under 129).trans Try.underlying129
def Seq.underlying130 := (Seq.wi_under 130).trans Try.underlying130
def Seq.underlying131 := (Seq.wi_under 131).trans Try.underlying131
def Seq.underlying132 := (Seq.wi_under 132).trans Try.underlying132
def Seq.underlying133 := (Seq.wi_under 133).trans Try.underlying133
def Seq.underlying134 := (Seq.wi_under 134).trans Try.underlying134
def Seq.underlying135 := (Seq.wi_under 135).trans Try.underlying135
def Seq.underlying136 := (Seq.wi_under 136).trans Try.underlying136
def Seq.underlying137 := (Seq.wi_under 137).trans Try.underlying137
def Seq.underlying138 := (Seq.wi_under 138).trans Try.underlying138
def Seq.underlying139 := (Seq.wi_under 139).trans Try.underlying139
def Seq.underlying140 := (Seq.wi_under 140).trans Try.underlying140
def Seq.underlying141 := (Seq.wi_under 141).trans Try.underlying141
def Seq.underlying142 := (Seq.wi_under 142).trans Try.underlying142
def Seq.underlying143 := (Seq.wi_under 143).trans Try.underlying143
def Seq.underlying144 := (Seq.wi_under 144).trans Try.underlying144
def Seq.underlying145 := (Seq.wi_under 145).trans Try.underlying145
def Seq.underlying146 := (Seq.wi_under 146).trans Try.underlying146
def Seq.underlying147 := (Seq.wi_under 147).trans Try.underlying147
def Seq.underlying148 := (Seq.wi_under 148).trans Try.underlying148
def Seq.underlying149 := (Seq.wi_under 149).trans Try.underlying149
def Seq.underlying150 := (Seq.wi_under 150).trans Try.underlying150
def Seq.underlying151 := (Seq.wi_under 151).trans Try.underlying151
def Seq.underlying152 := (Seq.wi_under 152).trans Try.underlying152
def Seq.underlying153 := (Seq.wi_under 153).trans Try.underlying153
def Seq.underlying154 := (Seq.wi_under 154).trans Try.underlying154
def Seq.underlying155 := (Seq.wi_under 155).trans Try.underlying155
def Seq.underlying156 := (Seq.wi_under 156).trans Try.underlying156
def Seq.underlying157 := (Seq.wi_under 157).trans Try.underlying157
def Seq.underlying158 := (Seq.wi_under 158).trans Try.underlying158
def Seq.underlying159 := (Seq.wi_under 159).trans Try.underlying159
def Seq.underlying160 := (Seq.wi_under 160).trans Try.underlying160
def Seq.sizeOf0 := fun w : World => (Seq.wi_sizeOf 0 w).trans (Try.sizeOf0 w)
def Seq.sizeOf1 := fun w : World => (Seq.wi_sizeOf 1 w).trans (Try.sizeOf1 w)
def Seq.sizeOf2 := fun w : World => (Seq.wi_sizeOf 2 w).trans (Try.sizeOf2 w)
def Seq.sizeOf3 := fun w : World => (Seq.wi_sizeOf 3 w).trans (Try.sizeOf3 w)
def Seq.sizeOf4 := fun w : World => (Seq.wi_sizeOf 4 w).trans (Try.sizeOf4 w)
def Seq.sizeOf5 := fun w : World => (Seq.wi_sizeOf 5 w).trans (Try.sizeOf5 w)
def Seq.sizeOf6 := fun w : World => (Seq.wi_sizeOf 6 w).trans (Try.sizeOf6 w)
def Seq.sizeOf7 := fun w : World => (Seq.wi_sizeOf 7 w).trans (Try.sizeOf7 w)
def Seq.sizeOf8 := fun w : World => (Seq.wi_sizeOf 8 w).trans (Try.sizeOf8 w)
def Seq.sizeOf9 := fun w : World => (Seq.wi_sizeOf 9 w).trans (Try.sizeOf9 w)
def Seq.sizeOf10 := fun w : World => (Seq.wi_sizeOf 10 w).trans (Try.sizeOf10 w)
def Seq.sizeOf11 := fun w : World => (Seq.wi_sizeOf 11 w).trans (Try.sizeOf11 w)
def Seq.sizeOf12 := fun w : World => (Seq.wi_sizeOf 12 w).trans (Try.sizeOf12 w)
def Seq.sizeOf13 := fun w : World => (Seq.wi_sizeOf 13 w).trans (Try.sizeOf13 w)
def Seq.sizeOf14 := fun w : World => (Seq.wi_sizeOf 14 w).trans (Try.sizeOf14 w)
def Seq.sizeOf15 := fun w : World => (Seq.wi_sizeOf 15 w).trans (Try.sizeOf15 w)
def Seq.sizeOf16 := fun w : World => (Seq.wi_sizeOf 16 w).trans (Try.sizeOf16 w)
def Seq.sizeOf17 := fun w : World => (Seq.wi_sizeOf 17 w).trans (Try.sizeOf17 w)
def Seq.sizeOf18 := fun w : World => (Seq.wi_sizeOf 18 w).trans (Try.sizeOf18 w)
def Seq.sizeOf19 := fun w : World => (Seq.wi_sizeOf 19 w).trans (Try.sizeOf19 w)
def Seq.sizeOf20 := fun w : World => (Seq.wi_sizeOf 20 w).trans (Try.sizeOf20 w)
def Seq.sizeOf21 := fun w : World => (Seq.wi_sizeOf 21 w).trans (Try.sizeOf21 w)
def Seq.sizeOf22 := fun w : World => (Seq.wi_sizeOf 22 w).trans (Try.sizeOf22 w)
def Seq.sizeOf23 := fun w : World => (Seq.wi_sizeOf 23 w).trans (Try.sizeOf23 w)
def Seq.sizeOf24 := fun w : World => (Seq.wi_sizeOf 24 w).trans (Try.sizeOf24 w)
def Seq.sizeOf25 := fun w : World => (Seq.wi_sizeOf 25 w).trans (Try.sizeOf25 w)
def Seq.sizeOf26 := fun w : World => (Seq.wi_sizeOf 26 w).trans (Try.sizeOf26 w)
def Seq.sizeOf27 := fun w : World => (Seq.wi_sizeOf 27 w).trans (Try.sizeOf27 w)
def Seq.sizeOf28 := fun w : World => (Seq.wi_sizeOf 28 w).trans (Try.sizeOf28 w)
def Seq.sizeOf29 := fun w : World => (Seq.wi_sizeOf 29 w).trans (Try.sizeOf29 w)
def Seq.sizeOf30 := fun w : World => (Seq.wi_sizeOf 30 w).trans (Try.sizeOf30 w)
def Seq.sizeOf31 := fun w : World => (Seq.wi_sizeOf 31 w).trans (Try.sizeOf31 w)
def Seq.sizeOf32 := fun w : World => (Seq.wi_sizeOf 32 w).trans (Try.sizeOf32 w)
def Seq.sizeOf33 := fun w : World => (Seq.wi_sizeOf 33 w).trans (Try.sizeOf33 w)
def Seq.sizeOf34 := fun w : World => (Seq.wi_sizeOf 34 w).trans (Try.sizeOf34 w)
def Seq.sizeOf35 := fun w : World => (Seq.wi_sizeOf 35 w).trans (Try.sizeOf35 w)
def Seq.sizeOf36 := fun w : World => (Seq.wi_sizeOf 36 w).trans (Try.sizeOf36 w)
def Seq.sizeOf37 := fun w : World => (Seq.wi_sizeOf 37 w).trans (Try.sizeOf37 w)
def Seq.sizeOf38 := fun w : World => (Seq.wi_sizeOf 38 w).trans (Try.sizeOf38 w)
def Seq.sizeOf39 := fun w : World => (Seq.wi_sizeOf 39 w).trans (Try.sizeOf39 w)
def Seq.sizeOf40 := fun w : World => (Seq.wi_sizeOf 40 w).trans (Try.sizeOf40 w)
def Seq.sizeOf41 := fun w : World => (Seq.wi_sizeOf 41 w).trans (Try.sizeOf41 w)
def Seq.sizeOf42 := fun w : World => (Seq.wi_sizeOf 42 w).trans (Try.sizeOf42 w)
def Seq.sizeOf43 := fun w : World => (Seq.wi_sizeOf 43 w).trans (Try.sizeOf43 w)
def Seq.sizeOf44 := fun w : World => (Seq.wi_sizeOf 44 w).trans (Try.sizeOf44 w)
def Seq.sizeOf45 := fun w : World => (Seq.wi_sizeOf 45 w).trans (Try.sizeOf45 w)
def Seq.sizeOf46 := fun w : World => (Seq.wi_sizeOf 46 w).trans (Try.sizeOf46 w)
def Seq.sizeOf47 := fun w : World => (Seq.wi_sizeOf 47 w).trans (Try.sizeOf47 w)
def Seq.sizeOf48 := fun w : World => (Seq.wi_sizeOf 48 w).trans (Try.sizeOf48 w)
def Seq.sizeOf49 := fun w : World => (Seq.wi_sizeOf 49 w).trans (Try.sizeOf49 w)
def Seq.sizeOf50 := fun w : World => (Seq.wi_sizeOf 50 w).trans (Try.sizeOf50 w)
def Seq.sizeOf51 := fun w : World => (Seq.wi_sizeOf 51 w).trans (Try.sizeOf51 w)
def Seq.sizeOf52 := fun w : World => (Seq.wi_sizeOf 52 w).trans (Try.sizeOf52 w)
def Seq.sizeOf53 := fun w : World => (Seq.wi_sizeOf 53 w).trans (Try.sizeOf53 w)
def Seq.sizeOf54 := fun w : World => (Seq.wi_sizeOf 54 w).trans (Try.sizeOf54 w)
def Seq.sizeOf55 := fun w : World => (Seq.wi_sizeOf 55 w).trans (Try.sizeOf55 w)
def Seq.sizeOf56 := fun w : World => (Seq.wi_sizeOf 56 w).trans (Try.sizeOf56 w)
def Seq.sizeOf57 := fun w : World => (Seq.wi_sizeOf 57 w).trans (Try.sizeOf57 w)
def Seq.sizeOf58 := fun w : World => (Seq.wi_sizeOf 58 w).trans (Try.sizeOf58 w)
def Seq.sizeOf59 := fun w : World => (Seq.wi_sizeOf 59 w).trans (Try.sizeOf59 w)
def Seq.sizeOf60 := fun w : World => (Seq.wi_sizeOf 60 w).trans (Try.sizeOf60 w)
def Seq.sizeOf61 := fun w : World => (Seq.wi_sizeOf 61 w).trans (Try.sizeOf61 w)
def Seq.sizeOf62 := fun w : World => (Seq.wi_sizeOf 62 w).trans (Try.sizeOf62 w)
def Seq.sizeOf63 := fun w : World => (Seq.wi_sizeOf 63 w).trans (Try.sizeOf63 w)
def Seq.sizeOf64 := fun w : World => (Seq.wi_sizeOf 64 w).trans (Try.sizeOf64 w)
def Seq.sizeOf65 := fun w : World => (Seq.wi_sizeOf 65 w).trans (Try.sizeOf65 w)
def Seq.sizeOf66 := fun w : World => (Seq.wi_sizeOf 66 w).trans (Try.sizeOf66 w)
def Seq.sizeOf67 := fun w : World => (Seq.wi_sizeOf 67 w).trans (Try.sizeOf67 w)
def Seq.sizeOf68 := fun w : World => (Seq.wi_sizeOf 68 w).trans (Try.sizeOf68 w)
def Seq.sizeOf69 := fun w : World => (Seq.wi_sizeOf 69 w).trans (Try.sizeOf69 w)
def Seq.sizeOf70 := fun w : World => (Seq.wi_sizeOf 70 w).trans (Try.sizeOf70 w)
def Seq.sizeOf71 := fun w : World => (Seq.wi_sizeOf 71 w).trans (Try.sizeOf71 w)
def Seq.sizeOf72 := fun w : World => (Seq.wi_sizeOf 72 w).trans (Try.sizeOf72 w)
def Seq.sizeOf73 := fun w : World => (Seq.wi_sizeOf 73 w).trans (Try.sizeOf73 w)
def Seq.sizeOf74 := fun w : World => (Seq.wi_sizeOf 74 w).trans (Try.sizeOf74 w)
def Seq.sizeOf75 := fun w : World => (Seq.wi_sizeOf 75 w).trans (Try.sizeOf75 w)
def Seq.sizeOf76 := fun w : World => (Seq.wi_sizeOf 76 w).trans (Try.sizeOf76 w)
def Seq.sizeOf77 := fun w : World => (Seq.wi_sizeOf 77 w).trans (Try.sizeOf77 w)
def Seq.sizeOf78 := fun w : World => (Seq.wi_sizeOf 78 w).trans (Try.sizeOf78 w)
def Seq.sizeOf79 := fun w : World => (Seq.wi_sizeOf 79 w).trans (Try.sizeOf79 w)
def Seq.sizeOf80 := fun w : World => (Seq.wi_sizeOf 80 w).trans (Try.sizeOf80 w)
def Seq.sizeOf81 := fun w : World => (Seq.wi_sizeOf 81 w).trans (Try.sizeOf81 w)
def Seq.sizeOf82 := fun w : World => (Seq.wi_sizeOf 82 w).trans (Try.sizeOf82 w)
def Seq.sizeOf83 := fun w : World => (Seq.wi_sizeOf 83 w).trans (Try.sizeOf83 w)
def Seq.sizeOf84 := fun w : World => (Seq.wi_sizeOf 84 w).trans (Try.sizeOf84 w)
def Seq.sizeOf85 := fun w : World => (Seq.wi_sizeOf 85 w).trans (Try.sizeOf85 w)
def Seq.sizeOf86 := fun w : World => (Seq.wi_sizeOf 86 w).trans (Try.sizeOf86 w)
def Seq.sizeOf87 := fun w : World => (Seq.wi_sizeOf 87 w).trans (Try.sizeOf87 w)
def Seq.sizeOf88 := fun w : World => (Seq.wi_sizeOf 88 w).trans (Try.sizeOf88 w)
def Seq.sizeOf89 := fun w : World => (Seq.wi_sizeOf 89 w).trans (Try.sizeOf89 w)
def Seq.sizeOf90 := fun w : World => (Seq.wi_sizeOf 90 w).trans (Try.sizeOf90 w)
def Seq.sizeOf91 := fun w : World => (Seq.wi_sizeOf 91 w).trans (Try.sizeOf91 w)
def Seq.sizeOf92 := fun w : World => (Seq.wi_sizeOf 92 w).trans (Try.sizeOf92 w)
def Seq.sizeOf93 := fun w : World => (Seq.wi_sizeOf 93 w).trans (Try.sizeOf93 w)
def Seq.sizeOf94 := fun w : World => (Seq.wi_sizeOf 94 w).trans (Try.sizeOf94 w)
def Seq.sizeOf95 := fun w : World => (Seq.wi_sizeOf 95 w).trans (Try.sizeOf95 w)
def Seq.sizeOf96 := fun w : World => (Seq.wi_sizeOf 96 w).trans (Try.sizeOf96 w)
def Seq.sizeOf97 := fun w : World => (Seq.wi_sizeOf 97 w).trans (Try.sizeOf97 w)
def Seq.sizeOf98 := fun w : World => (Seq.wi_sizeOf 98 w).trans (Try.sizeOf98 w)
def Seq.sizeOf99 := fun w : World => (Seq.wi_sizeOf 99 w).trans (Try.sizeOf99 w)
def Seq.sizeOf100 := fun w : World => (Seq.wi_sizeOf 100 w).trans (Try.sizeOf100 w)
def Seq.sizeOf101 := fun w : World => (Seq.wi_sizeOf 101 w).trans (Try.sizeOf101 w)
def Seq.sizeOf102 := fun w : World => (Seq.wi_sizeOf 102 w).trans (Try.sizeOf102 w)
def Seq.sizeOf103 := fun w : World => (Seq.wi_sizeOf 103 w).trans (Try.sizeOf103 w)
def Seq.sizeOf104 := fun w : World => (Seq.wi_sizeOf 104 w).trans (Try.sizeOf104 w)
def Seq.sizeOf105 := fun w : World => (Seq.wi_sizeOf 105 w).trans (Try.sizeOf105 w)
def Seq.sizeOf106 := fun w : World => (Seq.wi_sizeOf 106 w).trans (Try.sizeOf106 w)
def Seq.sizeOf107 := fun w : World => (Seq.wi_sizeOf 107 w).trans (Try.sizeOf107 w)
def Seq.sizeOf108 := fun w : World => (Seq.wi_sizeOf 108 w).trans (Try.sizeOf108 w)
def Seq.sizeOf109 := fun w : World => (Seq.wi_sizeOf 109 w).trans (Try.sizeOf109 w)
def Seq.sizeOf110 := fun w : World => (Seq.wi_sizeOf 110 w).trans (Try.sizeOf110 w)
def Seq.sizeOf111 := fun w : World => (Seq.wi_sizeOf 111 w).trans (Try.sizeOf111 w)
def Seq.sizeOf112 := fun w : World => (Seq.wi_sizeOf 112 w).trans (Try.sizeOf112 w)
def Seq.sizeOf113 := fun w : World => (Seq.wi_sizeOf 113 w).trans (Try.sizeOf113 w)
def Seq.sizeOf114 := fun w : World => (Seq.wi_sizeOf 114 w).trans (Try.sizeOf114 w)
def Seq.sizeOf115 := fun w : World => (Seq.wi_sizeOf 115 w).trans (Try.sizeOf115 w)
def Seq.sizeOf116 := fun w : World => (Seq.wi_sizeOf 116 w).trans (Try.sizeOf116 w)
def Seq.sizeOf117 := fun w : World => (Seq.wi_sizeOf 117 w).trans (Try.sizeOf117 w)
def Seq.sizeOf118 := fun w : World => (Seq.wi_sizeOf 118 w).trans (Try.sizeOf118 w)
def Seq.sizeOf119 := fun w : World => (Seq.wi_sizeOf 119 w).trans (Try.sizeOf119 w)
def Seq.sizeOf120 := fun w : World => (Seq.wi_sizeOf 120 w).trans (Try.sizeOf120 w)
def Seq.sizeOf121 := fun w : World => (Seq.wi_sizeOf 121 w).trans (Try.sizeOf121 w)
def Seq.sizeOf122 := fun w : World => (Seq.wi_sizeOf 122 w).trans (Try.sizeOf122 w)
def Seq.sizeOf123 := fun w : World => (Seq.wi_sizeOf 123 w).trans (Try.sizeOf123 w)
def Seq.sizeOf124 := fun w : World => (Seq.wi_sizeOf 124 w).trans (Try.sizeOf124 w)
def Seq.sizeOf125 := fun w : World => (Seq.wi_sizeOf 125 w).trans (Try.sizeOf125 w)
def Seq.sizeOf126 := fun w : World => (Seq.wi_sizeOf 126 w).trans (Try.sizeOf126 w)
def Seq.sizeOf127 := fun w : World => (Seq.wi_sizeOf 127 w).trans (Try.sizeOf127 w)
def Seq.sizeOf128 := fun w : World => (Seq.wi_sizeOf 128 w).trans (Try.sizeOf128 w)
def Seq.sizeOf129 := fun w : World => (Seq.wi_sizeOf 129 w).trans (Try.sizeOf129 w)
def Seq.sizeOf130 := fun w : World => (Seq.wi_sizeOf 130 w).trans (Try.sizeOf130 w)
def Seq.sizeOf131 := fun w : World => (Seq.wi_sizeOf 131 w).trans (Try.sizeOf131 w)
def Seq.sizeOf132 := fun w : World => (Seq.wi_sizeOf 132 w).trans (Try.sizeOf132 w)
def Seq.sizeOf133 := fun w : World => (Seq.wi_sizeOf 133 w).trans (Try.sizeOf133 w)
def Seq.sizeOf134 := fun w : World => (Seq.wi_sizeOf 134 w).trans (Try.sizeOf134 w)
def Seq.sizeOf135 := fun w : World => (Seq.wi_sizeOf 135 w).trans (Try.sizeOf135 w)
def Seq.sizeOf136 := fun w : World => (Seq.wi_sizeOf 136 w).trans (Try.sizeOf136 w)
def Seq.sizeOf137 := fun w : World => (Seq.wi_sizeOf 137 w).trans (Try.sizeOf137 w)
def Seq.sizeOf138 := fun w : World => (Seq.wi_sizeOf 138 w).trans (Try.sizeOf138 w)
def Seq.sizeOf139 := fun w : World => (Seq.wi_sizeOf 139 w).trans (Try.sizeOf139 w)
def Seq.sizeOf140 := fun w : World => (Seq.wi_sizeOf 140 w).trans (Try.sizeOf140 w)
def Seq.sizeOf141 := fun w : World => (Seq.wi_sizeOf 141 w).trans (Try.sizeOf141 w)
def Seq.sizeOf142 := fun w : World => (Seq.wi_sizeOf 142 w).trans (Try.sizeOf142 w)
def Seq.sizeOf143 := fun w : World => (Seq.wi_sizeOf 143 w).trans (Try.sizeOf143 w)
def Seq.sizeOf144 := fun w : World => (Seq.wi_sizeOf 144 w).trans (Try.sizeOf144 w)
def Seq.sizeOf145 := fun w : World => (Seq.wi_sizeOf 145 w).trans (Try.sizeOf145 w)
def Seq.sizeOf146 := fun w : World => (Seq.wi_sizeOf 146 w).trans (Try.sizeOf146 w)
def Seq.sizeOf147 := fun w : World => (Seq.wi_sizeOf 147 w).trans (Try.sizeOf147 w)
def Seq.sizeOf148 := fun w : World => (Seq.wi_sizeOf 148 w).trans (Try.sizeOf148 w)
def Seq.sizeOf149 := fun w : World => (Seq.wi_sizeOf 149 w).trans (Try.sizeOf149 w)
def Seq.sizeOf150 := fun w : World => (Seq.wi_sizeOf 150 w).trans (Try.sizeOf150 w)
def Seq.sizeOf151 := fun w : World => (Seq.wi_sizeOf 151 w).trans (Try.sizeOf151 w)
def Seq.sizeOf152 := fun w : World => (Seq.wi_sizeOf 152 w).trans (Try.sizeOf152 w)
def Seq.sizeOf153 := fun w : World => (Seq.wi_sizeOf 153 w).trans (Try.sizeOf153 w)
def Seq.sizeOf154 := fun w : World => (Seq.wi_sizeOf 154 w).trans (Try.sizeOf154 w)
def Seq.sizeOf155 := fun w : World => (Seq.wi_sizeOf 155 w).trans (Try.sizeOf155 w)
def Seq.sizeOf156 := fun w : World => (Seq.wi_sizeOf 156 w).trans (Try.sizeOf156 w)
def Seq.sizeOf157 := fun w : World => (Seq.wi_sizeOf 157 w).trans (Try.sizeOf157 w)
def Seq.sizeOf158 := fun w : World => (Seq.wi_sizeOf 158 w).trans (Try.sizeOf158 w)
def Seq.sizeOf159 := fun w : World => (Seq.wi_sizeOf 159 w).trans (Try.sizeOf159 w)
def Seq.sizeOf160 := fun w : World => (Seq.wi_sizeOf 160 w).trans (Try.sizeOf160 w)
def Seq.isAgg0 := fun w : World => (Seq.wi_isAgg 0 w).trans (Try.isAgg0 w)
def Seq.isAgg1 := fun w : World => (Seq.wi_isAgg 1 w).trans (Try.isAgg1 w)
def Seq.isAgg2 := fun w : World => (Seq.wi_isAgg 2 w).trans (Try.isAgg2 w)
def Seq.isAgg3 := fun w : World => (Seq.wi_isAgg 3 w).trans (Try.isAgg3 w)
def Seq.isAgg4 := fun w : World => (Seq.wi_isAgg 4 w).trans (Try.isAgg4 w)
def Seq.isAgg5 := fun w : World => (Seq.wi_isAgg 5 w).trans (Try.isAgg5 w)
def Seq.isAgg6 := fun w : World => (Seq.wi_isAgg 6 w).trans (Try.isAgg6 w)
def Seq.isAgg7 := fun w : World => (Seq.wi_isAgg 7 w).trans (Try.isAgg7 w)
def Seq.isAgg8 := fun w : World => (Seq.wi_isAgg 8 w).trans (Try.isAgg8 w)
def Seq.isAgg9 := fun w : World => (Seq.wi_isAgg 9 w).trans (Try.isAgg9 w)
def Seq.isAgg10 := fun w : World => (Seq.wi_isAgg 10 w).trans (Try.isAgg10 w)
def Seq.isAgg11 := fun w : World => (Seq.wi_isAgg 11 w).trans (Try.isAgg11 w)
def Seq.isAgg12 := fun w : World => (Seq.wi_isAgg 12 w).trans (Try.isAgg12 w)
def Seq.isAgg13 := fun w : World => (Seq.wi_isAgg 13 w).trans (Try.isAgg13 w)
def Seq.isAgg14 := fun w : World => (Seq.wi_isAgg 14 w).trans (Try.isAgg14 w)
def Seq.isAgg15 := fun w : World => (Seq.wi_isAgg 15 w).trans (Try.isAgg15 w)
def Seq.isAgg16 := fun w : World => (Seq.wi_isAgg 16 w).trans (Try.isAgg16 w)
def Seq.isAgg17 := fun w : World => (Seq.wi_isAgg 17 w).trans (Try.isAgg17 w)
def Seq.isAgg18 := fun w : World => (Seq.wi_isAgg 18 w).trans (Try.isAgg18 w)
def Seq.isAgg19 := fun w : World => (Seq.wi_isAgg 19 w).trans (Try.isAgg19 w)
def Seq.isAgg20 := fun w : World => (Seq.wi_isAgg 20 w).trans (Try.isAgg20 w)
def Seq.isAgg21 := fun w : World => (Seq.wi_isAgg 21 w).trans (Try.isAgg21 w)
def Seq.isAgg22 := fun w : World => (Seq.wi_isAgg 22 w).trans (Try.isAgg22 w)
def Seq.isAgg23 := fun w : World => (Seq.wi_isAgg 23 w).trans (Try.isAgg23 w)
def Seq.isAgg24 := fun w : World => (Seq.wi_isAgg 24 w).trans (Try.isAgg24 w)
def Seq.isAgg25 := fun w : World => (Seq.wi_isAgg 25 w).trans (Try.isAgg25 w)
def Seq.isAgg26 := fun w : World => (Seq.wi_isAgg 26 w).trans (Try.isAgg26 w)
def Seq.isAgg27 := fun w : World => (Seq.wi_isAgg 27 w).trans (Try.isAgg27 w)
def Seq.isAgg28 := fun w : World => (Seq.wi_isAgg 28 w).trans (Try.isAgg28 w)
def Seq.isAgg29 := fun w : World => (Seq.wi_isAgg 29 w).trans (Try.isAgg29 w)
def Seq.isAgg30 := fun w : World => (Seq.wi_isAgg 30 w).trans (Try.isAgg30 w)
def Seq.isAgg31 := fun w : World => (Seq.wi_isAgg 31 w).trans (Try.isAgg31 w)
def Seq.isAgg32 := fun w : World => (Seq.wi_isAgg 32 w).trans (Try.isAgg32 w)
def Seq.isAgg33 := fun w : World => (Seq.wi_isAgg 33 w).trans (Try.isAgg33 w)
def Seq.isAgg34 := fun w : World => (Seq.wi_isAgg 34 w).trans (Try.isAgg34 w)
def Seq.isAgg35 := fun w : World => (Seq.wi_isAgg 35 w).trans (Try.isAgg35 w)
def Seq.isAgg36 := fun w : World => (Seq.wi_isAgg 36 w).trans (Try.isAgg36 w)
def Seq.isAgg37 := fun w : World => (Seq.wi_isAgg 37 w).trans (Try.isAgg37 w)
def Seq.isAgg38 := fun w : World => (Seq.wi_isAgg 38 w).trans (Try.isAgg38 w)
def Seq.isAgg39 := fun w : World => (Seq.wi_isAgg 39 w).trans (Try.isAgg39 w)
def Seq.isAgg40 := fun w : World => (Seq.wi_isAgg 40 w).trans (Try.isAgg40 w)
def Seq.isAgg41 := fun w : World => (Seq.wi_isAgg 41 w).trans (Try.isAgg41 w)
def Seq.isAgg42 := fun w : World => (Seq.wi_isAgg 42 w).trans (Try.isAgg42 w)
def Seq.isAgg43 := fun w : World => (Seq.wi_isAgg 43 w).trans (Try.isAgg43 w)
def Seq.isAgg44 := fun w : World => (Seq.wi_isAgg 44 w).trans (Try.isAgg44 w)
def Seq.isAgg45 := fun w : World => (Seq.wi_isAgg 45 w).trans (Try.isAgg45 w)
def Seq.isAgg46 := fun w : World => (Seq.wi_isAgg 46 w).trans (Try.isAgg46 w)
def Seq.isAgg47 := fun w : World => (Seq.wi_isAgg 47 w).trans (Try.isAgg47 w)
def Seq.isAgg48 := fun w : World => (Seq.wi_isAgg 48 w).trans (Try.isAgg48 w)
def Seq.isAgg49 := fun w : World => (Seq.wi_isAgg 49 w).trans (Try.isAgg49 w)
def Seq.isAgg50 := fun w : World => (Seq.wi_isAgg 50 w).trans (Try.isAgg50 w)
def Seq.isAgg51 := fun w : World => (Seq.wi_isAgg 51 w).trans (Try.isAgg51 w)
def Seq.isAgg52 := fun w : World => (Seq.wi_isAgg 52 w).trans (Try.isAgg52 w)
def Seq.isAgg53 := fun w : World => (Seq.wi_isAgg 53 w).trans (Try.isAgg53 w)
def Seq.isAgg54 := fun w : World => (Seq.wi_isAgg 54 w).trans (Try.isAgg54 w)
def Seq.isAgg55 := fun w : World => (Seq.wi_isAgg 55 w).trans (Try.isAgg55 w)
def Seq.isAgg56 := fun w : World => (Seq.wi_isAgg 56 w).trans (Try.isAgg56 w)
def Seq.isAgg57 := fun w : World => (Seq.wi_isAgg 57 w).trans (Try.isAgg57 w)
def Seq.isAgg58 := fun w : World => (Seq.wi_isAgg 58 w).trans (Try.isAgg58 w)
def Seq.isAgg59 := fun w : World => (Seq.wi_isAgg 59 w).trans (Try.isAgg59 w)
def Seq.isAgg60 := fun w : World => (Seq.wi_isAgg 60 w).trans (Try.isAgg60 w)
def Seq.isAgg61 := fun w : World => (Seq.wi_isAgg 61 w).trans (Try.isAgg61 w)
def Seq.isAgg62 := fun w : World => (Seq.wi_isAgg 62 w).trans (Try.isAgg62 w)
def Seq.isAgg63 := fun w : World => (Seq.wi_isAgg 63 w).trans (Try.isAgg63 w)
def Seq.isAgg64 := fun w : World => (Seq.wi_isAgg 64 w).trans (Try.isAgg64 w)
def Seq.isAgg65 := fun w : World => (Seq.wi_isAgg 65 w).trans (Try.isAgg65 w)
def Seq.isAgg66 := fun w : World => (Seq.wi_isAgg 66 w).trans (Try.isAgg66 w)
def Seq.isAgg67 := fun w : World => (Seq.wi_isAgg 67 w).trans (Try.isAgg67 w)
def Seq.isAgg68 := fun w : World => (Seq.wi_isAgg 68 w).trans (Try.isAgg68 w)
def Seq.isAgg69 := fun w : World => (Seq.wi_isAgg 69 w).trans (Try.isAgg69 w)
def Seq.isAgg70 := fun w : World => (Seq.wi_isAgg 70 w).trans (Try.isAgg70 w)
def Seq.isAgg71 := fun w : World => (Seq.wi_isAgg 71 w).trans (Try.isAgg71 w)
def Seq.isAgg72 := fun w : World => (Seq.wi_isAgg 72 w).trans (Try.isAgg72 w)
def Seq.isAgg73 := fun w : World => (Seq.wi_isAgg 73 w).trans (Try.isAgg73 w)
def Seq.isAgg74 := fun w : World => (Seq.wi_isAgg 74 w).trans (Try.isAgg74 w)
def Seq.isAgg75 := fun w : World => (Seq.wi_isAgg 75 w).trans (Try.isAgg75 w)
def Seq.isAgg76 := fun w : World => (Seq.wi_isAgg 76 w).trans (Try.isAgg76 w)
def Seq.isAgg77 := fun w : World => (Seq.wi_isAgg 77 w).trans (Try.isAgg77 w)
def Seq.isAgg78 := fun w : World => (Seq.wi_isAgg 78 w).trans (Try.isAgg78 w)
def Seq.isAgg79 := fun w : World => (Seq.wi_isAgg 79 w).trans (Try.isAgg79 w)
def Seq.isAgg80 := fun w : World => (Seq.wi_isAgg 80 w).trans (Try.isAgg80 w)
def Seq.isAgg81 := fun w : World => (Seq.wi_isAgg 81 w).trans (Try.isAgg81 w)
def Seq.isAgg82 := fun w : World => (Seq.wi_isAgg 82 w).trans (Try.isAgg82 w)
def Seq.isAgg83 := fun w : World => (Seq.wi_isAgg 83 w).trans (Try.isAgg83 w)
def Seq.isAgg84 := fun w : World => (Seq.wi_isAgg 84 w).trans (Try.isAgg84 w)
def Seq.isAgg85 := fun w : World => (Seq.wi_isAgg 85 w).trans (Try.isAgg85 w)
def Seq.isAgg86 := fun w : World => (Seq.wi_isAgg 86 w).trans (Try.isAgg86 w)
def Seq.isAgg87 := fun w : World => (Seq.wi_isAgg 87 w).trans (Try.isAgg87 w)
def Seq.isAgg88 := fun w : World => (Seq.wi_isAgg 88 w).trans (Try.isAgg88 w)
def Seq.isAgg89 := fun w : World => (Seq.wi_isAgg 89 w).trans (Try.isAgg89 w)
def Seq.isAgg90 := fun w : World => (Seq.wi_isAgg 90 w).trans (Try.isAgg90 w)
def Seq.isAgg91 := fun w : World => (Seq.wi_isAgg 91 w).trans (Try.isAgg91 w)
def Seq.isAgg92 := fun w : World => (Seq.wi_isAgg 92 w).trans (Try.isAgg92 w)
def Seq.isAgg93 := fun w : World => (Seq.wi_isAgg 93 w).trans (Try.isAgg93 w)
def Seq.isAgg94 := fun w : World => (Seq.wi_isAgg 94 w).trans (Try.isAgg94 w)
def Seq.isAgg95 := fun w : World => (Seq.wi_isAgg 95 w).trans (Try.isAgg95 w)
def Seq.isAgg96 := fun w : World => (Seq.wi_isAgg 96 w).trans (Try.isAgg96 w)
def Seq.isAgg97 := fun w : World => (Seq.wi_isAgg 97 w).trans (Try.isAgg97 w)
def Seq.isAgg98 := fun w : World => (Seq.wi_isAgg 98 w).trans (Try.isAgg98 w)
def Seq.isAgg99 := fun w : World => (Seq.wi_isAgg 99 w).trans (Try.isAgg99 w)
def Seq.isAgg100 := fun w : World => (Seq.wi_isAgg 100 w).trans (Try.isAgg100 w)
def Seq.isAgg101 := fun w : World => (Seq.wi_isAgg 101 w).trans (Try.isAgg101 w)
def Seq.isAgg102 := fun w : World => (Seq.wi_isAgg 102 w).trans (Try.isAgg102 w)
def Seq.isAgg103 := fun w : World => (Seq.wi_isAgg 103 w).trans (Try.isAgg103 w)
def Seq.isAgg104 := fun w : World => (Seq.wi_isAgg 104 w).trans (Try.isAgg104 w)
def Seq.isAgg105 := fun w : World => (Seq.wi_isAgg 105 w).trans (Try.isAgg105 w)
def Seq.isAgg106 := fun w : World => (Seq.wi_isAgg 106 w).trans (Try.isAgg106 w)
def Seq.isAgg107 := fun w : World => (Seq.wi_isAgg 107 w).trans (Try.isAgg107 w)
def Seq.isAgg108 := fun w : World => (Seq.wi_isAgg 108 w).trans (Try.isAgg108 w)
def Seq.isAgg109 := fun w : World => (Seq.wi_isAgg 109 w).trans (Try.isAgg109 w)
def Seq.isAgg110 := fun w : World => (Seq.wi_isAgg 110 w).trans (Try.isAgg110 w)
def Seq.isAgg111 := fun w : World => (Seq.wi_isAgg 111 w).trans (Try.isAgg111 w)
def Seq.isAgg112 := fun w : World => (Seq.wi_isAgg 112 w).trans (Try.isAgg112 w)
def Seq.isAgg113 := fun w : World => (Seq.wi_isAgg 113 w).trans (Try.isAgg113 w)
def Seq.isAgg114 := fun w : World => (Seq.wi_isAgg 114 w).trans (Try.isAgg114 w)
def Seq.isAgg115 := fun w : World => (Seq.wi_isAgg 115 w).trans (Try.isAgg115 w)
def Seq.isAgg116 := fun w : World => (Seq.wi_isAgg 116 w).trans (Try.isAgg116 w)
def Seq.isAgg117 := fun w : World => (Seq.wi_isAgg 117 w).trans (Try.isAgg117 w)
def Seq.isAgg118 := fun w : World => (Seq.wi_isAgg 118 w).trans (Try.isAgg118 w)
def Seq.isAgg119 := fun w : World => (Seq.wi_isAgg 119 w).trans (Try.isAgg119 w)
def Seq.isAgg120 := fun w : World => (Seq.wi_isAgg 120 w).trans (Try.isAgg120 w)
def Seq.isAgg121 := fun w : World => (Seq.wi_isAgg 121 w).trans (Try.isAgg121 w)
def Seq.isAgg122 := fun w : World => (Seq.wi_isAgg 122 w).trans (Try.isAgg122 w)
def Seq.isAgg123 := fun w : World => (Seq.wi_isAgg 123 w).trans (Try.isAgg123 w)
def Seq.isAgg124 := fun w : World => (Seq.wi_isAgg 124 w).trans (Try.isAgg124 w)
def Seq.isAgg125 := fun w : World => (Seq.wi_isAgg 125 w).trans (Try.isAgg125 w)
def Seq.isAgg126 := fun w : World => (Seq.wi_isAgg 126 w).trans (Try.isAgg126 w)
def Seq.isAgg127 := fun w : World => (Seq.wi_isAgg 127 w).trans (Try.isAgg127 w)
def Seq.isAgg128 := fun w : World => (Seq.wi_isAgg 128 w).trans (Try.isAgg128 w)
def Seq.isAgg129 := fun w : World => (Seq.wi_isAgg 129 w).trans (Try.isAgg129 w)
def Seq.isAgg130 := fun w : World => (Seq.wi_isAgg 130 w).trans (Try.isAgg130 w)
def Seq.isAgg131 := fun w : World => (Seq.wi_isAgg 131 w).trans (Try.isAgg131 w)
def Seq.isAgg132 := fun w : World => (Seq.wi_isAgg 132 w).trans (Try.isAgg132 w)
def Seq.isAgg133 := fun w : World => (Seq.wi_isAgg 133 w).trans (Try.isAgg133 w)
def Seq.isAgg134 := fun w : World => (Seq.wi_isAgg 134 w).trans (Try.isAgg134 w)
def Seq.isAgg135 := fun w : World => (Seq.wi_isAgg 135 w).trans (Try.isAgg135 w)
def Seq.isAgg136 := fun w : World => (Seq.wi_isAgg 136 w).trans (Try.isAgg136 w)
def Seq.isAgg137 := fun w : World => (Seq.wi_isAgg 137 w).trans (Try.isAgg137 w)
def Seq.isAgg138 := fun w : World => (Seq.wi_isAgg 138 w).trans (Try.isAgg138 w)
def Seq.isAgg139 := fun w : World => (Seq.wi_isAgg 139 w).trans (Try.isAgg139 w)
def Seq.isAgg140 := fun w : World => (Seq.wi_isAgg 140 w).trans (Try.isAgg140 w)
def Seq.isAgg141 := fun w : World => (Seq.wi_isAgg 141 w).trans (Try.isAgg141 w)
def Seq.isAgg142 := fun w : World => (Seq.wi_isAgg 142 w).trans (Try.isAgg142 w)
def Seq.isAgg143 := fun w : World => (Seq.wi_isAgg 143 w).trans (Try.isAgg143 w)
def Seq.isAgg144 := fun w : World => (Seq.wi_isAgg 144 w).trans (Try.isAgg144 w)
def Seq.isAgg145 := fun w : World => (Seq.wi_isAgg 145 w).trans (Try.isAgg145 w)
def Seq.isAgg146 := fun w : World => (Seq.wi_isAgg 146 w).trans (Try.isAgg146 w)
def Seq.isAgg147 := fun w : World => (Seq.wi_isAgg 147 w).trans (Try.isAgg147 w)
def Seq.isAgg148 := fun w : World => (Seq.wi_isAgg 148 w).trans (Try.isAgg148 w)
def Seq.isAgg149 := fun w : World => (Seq.wi_isAgg 149 w).trans (Try.isAgg149 w)
def Seq.isAgg150 := fun w : World => (Seq.wi_isAgg 150 w).trans (Try.isAgg150 w)
def Seq.isAgg151 := fun w : World => (Seq.wi_isAgg 151 w).trans (Try.isAgg151 w)
def Seq.isAgg152 := fun w : World => (Seq.wi_isAgg 152 w).trans (Try.isAgg152 w)
def Seq.isAgg153 := fun w : World => (Seq.wi_isAgg 153 w).trans (Try.isAgg153 w)
def Seq.isAgg154 := fun w : World => (Seq.wi_isAgg 154 w).trans (Try.isAgg154 w)
def Seq.isAgg155 := fun w : World => (Seq.wi_isAgg 155 w).trans (Try.isAgg155 w)
def Seq.isAgg156 := fun w : World => (Seq.wi_isAgg 156 w).trans (Try.isAgg156 w)
def Seq.isAgg157 := fun w : World => (Seq.wi_isAgg 157 w).trans (Try.isAgg157 w)
def Seq.isAgg158 := fun w : World => (Seq.wi_isAgg 158 w).trans (Try.isAgg158 w)
def Seq.isAgg159 := fun w : World => (Seq.wi_isAgg 159 w).trans (Try.isAgg159 w)
def Seq.isAgg160 := fun w : World => (Seq.wi_isAgg 160 w).trans (Try.isAgg160 w)
def Seq.zeroValue0 := fun w : World => (Seq.wi_zeroValue 0 w).trans (Try.zeroValue0 w)
def Seq.zeroValue1 := fun w : World => (Seq.wi_zeroValue 1 w).trans (Try.zeroValue1 w)
def Seq.zeroValue2 := fun w : World => (Seq.wi_zeroValue 2 w).trans (Try.zeroValue2 w)
def Seq.zeroValue3 := fun w : World => (Seq.wi_zeroValue 3 w).trans (Try.zeroValue3 w)
def Seq.zeroValue4 := fun w : World => (Seq.wi_zeroValue 4 w).trans (Try.zeroValue4 w)
def Seq.zeroValue5 := fun w : World => (Seq.wi_zeroValue 5 w).trans (Try.zeroValue5 w)
def Seq.zeroValue6 := fun w : World => (Seq.wi_zeroValue 6 w).trans (Try.zeroValue6 w)
def Seq.zeroValue7 := fun w : World => (Seq.wi_zeroValue 7 w).trans (Try.zeroValue7 w)
def Seq.zeroValue8 := fun w : World => (Seq.wi_zeroValue 8 w).trans (Try.zeroValue8 w)
def Seq.zeroValue9 := fun w : World => (Seq.wi_zeroValue 9 w).trans (Try.zeroValue9 w)
def Seq.zeroValue10 := fun w : World => (Seq.wi_zeroValue 10 w).trans (Try.zeroValue10 w)
def Seq.zeroValue11 := fun w : World => (Seq.wi_zeroValue 11 w).trans (Try.zeroValue11 w)
def Seq.zeroValue12 := fun w : World => (Seq.wi_zeroValue 12 w).trans (Try.zeroValue12 w)
def Seq.zeroValue13 := fun w : World => (Seq.wi_zeroValue 13 w).trans (Try.zeroValue13 w)
def Seq.zeroValue14 := fun w : World => (Seq.wi_zeroValue 14 w).trans (Try.zeroValue14 w)
def Seq.zeroValue15 := fun w : World => (Seq.wi_zeroValue 15 w).trans (Try.zeroValue15 w)
def Seq.zeroValue16 := fun w : World => (Seq.wi_zeroValue 16 w).trans (Try.zeroValue16 w)
def Seq.zeroValue17 := fun w : World => (Seq.wi_zeroValue 17 w).trans (Try.zeroValue17 w)
def Seq.zeroValue18 := fun w : World => (Seq.wi_zeroValue 18 w).trans (Try.zeroValue18 w)
def Seq.zeroValue19 := fun w : World => (Seq.wi_zeroValue 19 w).trans (Try.zeroValue19 w)
def Seq.zeroValue20 := fun w : World => (Seq.wi_zeroValue 20 w).trans (Try.zeroValue20 w)
def Seq.zeroValue21 := fun w : World => (Seq.wi_zeroValue 21 w).trans (Try.zeroValue21 w)
def Seq.zeroValue22 := fun w : World => (Seq.wi_zeroValue 22 w).trans (Try.zeroValue22 w)
def Seq.zeroValue23 := fun w : World => (Seq.wi_zeroValue 23 w).trans (Try.zeroValue23 w)
def Seq.zeroValue24 := fun w : World => (Seq.wi_zeroValue 24 w).trans (Try.zeroValue24 w)
def Seq.zeroValue25 := fun w : World => (Seq.wi_zeroValue 25 w).trans (Try.zeroValue25 w)
def Seq.zeroValue26 := fun w : World => (Seq.wi_zeroValue 26 w).trans (Try.zeroValue26 w)
def Seq.zeroValue27 := fun w : World => (Seq.wi_zeroValue 27 w).trans (Try.zeroValue27 w)
def Seq.zeroValue28 := fun w : World => (Seq.wi_zeroValue 28 w).trans (Try.zeroValue28 w)
def Seq.zeroValue29 := fun w : World => (Seq.wi_zeroValue 29 w).trans (Try.zeroValue29 w)
def Seq.zeroValue30 := fun w : World => (Seq.wi_zeroValue 30 w).trans (Try.zeroValue30 w)
def Seq.zeroValue31 := fun w : World => (Seq.wi_zeroValue 31 w).trans (Try.zeroValue31 w)
def Seq.zeroValue32 := fun w : World => (Seq.wi_zeroValue 32 w).trans (Try.zeroValue32 w)
def Seq.zeroValue33 := fun w : World => (Seq.wi_zeroValue 33 w).trans (Try.zeroValue33 w)
def Seq.zeroValue34 := fun w : World => (Seq.wi_zeroValue 34 w).trans (Try.zeroValue34 w)
def Seq.zeroValue35 := fun w : World => (Seq.wi_zeroValue 35 w).trans (Try.zeroValue35 w)
def Seq.zeroValue36 := fun w : World => (Seq.wi_zeroValue 36 w).trans (Try.zeroValue36 w)
def Seq.zeroValue37 := fun w : World => (Seq.wi_zeroValue 37 w).trans (Try.zeroValue37 w)
def Seq.zeroValue38 := fun w : World => (Seq.wi_zeroValue 38 w).trans (Try.zeroValue38 w)
def Seq.zeroValue39 := fun w : World => (Seq.wi_zeroValue 39 w).trans (Try.zeroValue39 w)
def Seq.zeroValue40 := fun w : World => (Seq.wi_zeroValue 40 w).trans (Try.zeroValue40 w)
def Seq.zeroValue41 := fun w : World => (Seq.wi_zeroValue 41 w).trans (Try.zeroValue41 w)
def Seq.zeroValue42 := fun w : World => (Seq.wi_zeroValue 42 w).trans (Try.zeroValue42 w)
def Seq.zeroValue43 := fun w : World => (Seq.wi_zeroValue 43 w).trans (Try.zeroValue43 w)
def Seq.zeroValue44 := fun w : World => (Seq.wi_zeroValue 44 w).trans (Try.zeroValue44 w)
def Seq.zeroValue45 := fun w : World => (Seq.wi_zeroValue 45 w).trans (Try.zeroValue45 w)
def Seq.zeroValue46 := fun w : World => (Seq.wi_zeroValue 46 w).trans (Try.zeroValue46 w)
def Seq.zeroValue47 := fun w : World => (Seq.wi_zeroValue 47 w).trans (Try.zeroValue47 w)
def Seq.zeroValue48 := fun w : World => (Seq.wi_zeroValue 48 w).trans (Try.zeroValue48 w)
def Seq.zeroValue49 := fun w : World => (Seq.wi_zeroValue 49 w).trans (Try.zeroValue49 w)
def Seq.zeroValue50 := fun w : World => (Seq.wi_zeroValue 50 w).trans (Try.zeroValue50 w)
def Seq.zeroValue51 := fun w : World => (Seq.wi_zeroValue 51 w).trans (Try.zeroValue51 w)
def Seq.zeroValue52 := fun w : World => (Seq.wi_zeroValue 52 w).trans (Try.zeroValue52 w)
def Seq.zeroValue53 := fun w : World => (Seq.wi_zeroValue 53 w).trans (Try.zeroValue53 w)
def Seq.zeroValue54 := fun w : World => (Seq.wi_zeroValue 54 w).trans (Try.zeroValue54 w)
def Seq.zeroValue55 := fun w : World => (Seq.wi_zeroValue 55 w).trans (Try.zeroValue55 w)
def Seq.zeroValue56 := fun w : World => (Seq.wi_zeroValue 56 w).trans (Try.zeroValue56 w)
def Seq.zeroValue57 := fun w : World => (Seq.wi_zeroValue 57 w).trans (Try.zeroValue57 w)
def Seq.zeroValue58 := fun w : World => (Seq.wi_zeroValue 58 w).trans (Try.zeroValue58 w)
def Seq.zeroValue59 := fun w : World => (Seq.wi_zeroValue 59 w).trans (Try.zeroValue59 w)
def Seq.zeroValue60 := fun w : World => (Seq.wi_zeroValue 60 w).trans (Try.zeroValue60 w)
def Seq.zeroValue61 := fun w : World => (Seq.wi_zeroValue 61 w).trans (Try.zeroValue61 w)
def Seq.zeroValue62 := fun w : World => (Seq.wi_zeroValue 62 w).trans (Try.zeroValue62 w)
def Seq.zeroValue63 := fun w : World => (Seq.wi_zeroValue 63 w).trans (Try.zeroValue63 w)
def Seq.zeroValue64 := fun w : World => (Seq.wi_zeroValue 64 w).trans (Try.zeroValue64 w)
def Seq.zeroValue65 := fun w : World => (Seq.wi_zeroValue 65 w).trans (Try.zeroValue65 w)
def Seq.zeroValue66 := fun w : World => (Seq.wi_zeroValue 66 w).trans (Try.zeroValue66 w)
def Seq.zeroValue67 := fun w : World => (Seq.wi_zeroValue 67 w).trans (Try.zeroValue67 w)
def Seq.zeroValue68 := fun w : World => (Seq.wi_zeroValue 68 w).trans (Try.zeroValue68 w)
def Seq.zeroValue69 := fun w : World => (Seq.wi_zeroValue 69 w).trans (Try.zeroValue69 w)
def Seq.zeroValue70 := fun w : World => (Seq.wi_zeroValue 70 w).trans (Try.zeroValue70 w)
def Seq.zeroValue71 := fun w : World => (Seq.wi_zeroValue 71 w).trans (Try.zeroValue71 w)
def Seq.zeroValue72 := fun w : World => (Seq.wi_zeroValue 72 w).trans (Try.zeroValue72 w)
def Seq.zeroValue73 := fun w : World => (Seq.wi_zeroValue 73 w).trans (Try.zeroValue73 w)
def Seq.zeroValue74 := fun w : World => (Seq.wi_zeroValue 74 w).trans (Try.zeroValue74 w)
def Seq.zeroValue75 := fun w : World => (Seq.wi_zeroValue 75 w).trans (Try.zeroValue75 w)
def Seq.zeroValue76 := fun w : World => (Seq.wi_zeroValue 76 w).trans (Try.zeroValue76 w)
def Seq.zeroValue77 := fun w : World => (Seq.wi_zeroValue 77 w).trans (Try.zeroValue77 w)
def Seq.zeroValue78 := fun w : World => (Seq.wi_zeroValue 78 w).trans (Try.zeroValue78 w)
def Seq.zeroValue79 := fun w : World => (Seq.wi_zeroValue 79 w).trans (Try.zeroValue79 w)
def Seq.zeroValue80 := fun w : World => (Seq.wi_zeroValue 80 w).trans (Try.zeroValue80 w)
def Seq.zeroValue81 := fun w : World => (Seq.wi_zeroValue 81 w).trans (Try.zeroValue81 w)
def Seq.zeroValue82 := fun w : World => (Seq.wi_zeroValue 82 w).trans (Try.zeroValue82 w)
def Seq.zeroValue83 := fun w : World => (Seq.wi_zeroValue 83 w).trans (Try.zeroValue83 w)
def Seq.zeroValue84 := fun w : World => (Seq.wi_zeroValue 84 w).trans (Try.zeroValue84 w)
def Seq.zeroValue85 := fun w : World => (Seq.wi_zeroValue 85 w).trans (Try.zeroValue85 w)
def Seq.zeroValue86 := fun w : World => (Seq.wi_zeroValue 86 w).trans (Try.zeroValue86 w)
def Seq.zeroValue87 := fun w : World => (Seq.wi_zeroValue 87 w).trans (Try.zeroValue87 w)
def Seq.zeroValue88 := fun w : World => (Seq.wi_zeroValue 88 w).trans (Try.zeroValue88 w)
def Seq.zeroValue89 := fun w : World => (Seq.wi_zeroValue 89 w).trans (Try.zeroValue89 w)
def Seq.zeroValue90 := fun w : World => (Seq.wi_zeroValue 90 w).trans (Try.zeroValue90 w)
def Seq.zeroValue91 := fun w : World => (Seq.wi_zeroValue 91 w).trans (Try.zeroValue91 w)
def Seq.zeroValue92 := fun w : World => (Seq.wi_zeroValue 92 w).trans (Try.zeroValue92 w)
def Seq.zeroValue93 := fun w : World => (Seq.wi_zeroValue 93 w).trans (Try.zeroValue93 w)
def Seq.zeroValue94 := fun w : World => (Seq.wi_zeroValue 94 w).trans (Try.zeroValue94 w)
def Seq.zeroValue95 := fun w : World => (Seq.wi_zeroValue 95 w).trans (Try.zeroValue95 w)
def Seq.zeroValue96 := fun w : World => (Seq.wi_zeroValue 96 w).trans (Try.zeroValue96 w)
def Seq.zeroValue97 := fun w : World => (Seq.wi_zeroValue 97 w).trans (Try.zeroValue97 w)
def Seq.zeroValue98 := fun w : World => (Seq.wi_zeroValue 98 w).trans (Try.zeroValue98 w)
def Seq.zeroValue99 := fun w : World => (Seq.wi_zeroValue 99 w).trans (Try.zeroValue99 w)
def Seq.zeroValue100 := fun w : World => (Seq.wi_zeroValue 100 w).trans (Try.zeroValue100 w)
def Seq.zeroValue101 := fun w : World => (Seq.wi_zeroValue 101 w).trans (Try.zeroValue101 w)
def Seq.zeroValue102 := fun w : World => (Seq.wi_zeroValue 102 w).trans (Try.zeroValue102 w)
def Seq.zeroValue103 := fun w : World => (Seq.wi_zeroValue 103 w).trans (Try.zeroValue103 w)
def Seq.zeroValue104 := fun w : World => (Seq.wi_zeroValue 104 w).trans (Try.zeroValue104 w)
def Seq.zeroValue105 := fun w : World => (Seq.wi_zeroValue 105 w).trans (Try.zeroValue105 w)
def Seq.zeroValue106 := fun w : World => (Seq.wi_zeroValue 106 w).trans (Try.zeroValue106 w)
def Seq.zeroValue107 := fun w : World => (Seq.wi_zeroValue 107 w).trans (Try.zeroValue107 w)
def Seq.zeroValue108 := fun w : World => (Seq.wi_zeroValue 108 w).trans (Try.zeroValue108 w)
def Seq.zeroValue109 := fun w : World => (Seq.wi_zeroValue 109 w).trans (Try.zeroValue109 w)
def Seq.zeroValue110 := fun w : World => (Seq.wi_zeroValue 110 w).trans (Try.zeroValue110 w)
def Seq.zeroValue111 := fun w : World => (Seq.wi_zeroValue 111 w).trans (Try.zeroValue111 w)
def Seq.zeroValue112 := fun w : World => (Seq.wi_zeroValue 112 w).trans (Try.zeroValue112 w)
def Seq.zeroValue113 := fun w : World => (Seq.wi_zeroValue 113 w).trans (Try.zeroValue113 w)
def Seq.zeroValue114 := fun w : World => (Seq.wi_zeroValue 114 w).trans (Try.zeroValue114 w)
def Seq.zeroValue115 := fun w : World => (Seq.wi_zeroValue 115 w).trans (Try.zeroValue115 w)
def Seq.zeroValue116 := fun w : World => (Seq.wi_zeroValue 116 w).trans (Try.zeroValue116 w)
def Seq.zeroValue117 := fun w : World => (Seq.wi_zeroValue 117 w).trans (Try.zeroValue117 w)
def Seq.zeroValue118 := fun w : World => (Seq.wi_zeroValue 118 w).trans (Try.zeroValue118 w)
def Seq.zeroValue119 := fun w : World => (Seq.wi_zeroValue 119 w).trans (Try.zeroValue119 w)
def Seq.zeroValue120 := fun w : World => (Seq.wi_zeroValue 120 w).trans (Try.zeroValue120 w)
def Seq.zeroValue121 := fun w : World => (Seq.wi_zeroValue 121 w).trans (Try.zeroValue121 w)
def Seq.zeroValue122 := fun w : World => (Seq.wi_zeroValue 122 w).trans (Try.zeroValue122 w)
def Seq.zeroValue123 := fun w : World => (Seq.wi_zeroValue 123 w).trans (Try.zeroValue123 w)
def Seq.zeroValue124 := fun w : World => (Seq.wi_zeroValue 124 w).trans (Try.zeroValue124 w)
def Seq.zeroValue125 := fun w : World => (Seq.wi_zeroValue 125 w).trans (Try.zeroValue125 w)
def Seq.zeroValue126 := fun w : World => (Seq.wi_zeroValue 126 w).trans (Try.zeroValue126 w)
def Seq.zeroValue127 := fun w : World => (Seq.wi_zeroValue 127 w).trans (Try.zeroValue127 w)
def Seq.zeroValue128 := fun w : World => (Seq.wi_zeroValue 128 w).trans (Try.zeroValue128 w)
def Seq.zeroValue129 := fun w : World => (Seq.wi_zeroValue 129 w).trans (Try.zeroValue129 w)
def Seq.zeroValue130 := fun w : World => (Seq.wi_zeroValue 130 w).trans (Try.zeroValue130 w)
def Seq.zeroValue131 := fun w : World => (Seq.wi_zeroValue 131 w).trans (Try.zeroValue131 w)
def Seq.zeroValue132 := fun w : World => (Seq.wi_zeroValue 132 w).trans (Try.zeroValue132 w)
def Seq.zeroValue133 := fun w : World => (Seq.wi_zeroValue 133 w).trans (Try.zeroValue133 w)
def Seq.zeroValue134 := fun w : World => (Seq.wi_zeroValue 134 w).trans (Try.zeroValue134 w)
def Seq.zeroValue135 := fun w : World => (Seq.wi_zeroValue 135 w).trans (Try.zeroValue135 w)
def Seq.zeroValue136 := fun w : World => (Seq.wi_zeroValue 136 w).trans (Try.zeroValue136 w)
def Seq.zeroValue137 := fun w : World => (Seq.wi_zeroValue 137 w).trans (Try.zeroValue137 w)
def Seq.zeroValue138 := fun w : World => (Seq.wi_zeroValue 138 w).trans (Try.zeroValue138 w)
def Seq.zeroValue139 := fun w : World => (Seq.wi_zeroValue 139 w).trans (Try.zeroValue139 w)
def Seq.zeroValue140 := fun w : World => (Seq.wi_zeroValue 140 w).trans (Try.zeroValue140 w)
def Seq.zeroValue141 := fun w : World => (Seq.wi_zeroValue 141 w).trans (Try.zeroValue141 w)
def Seq.zeroValue142 := fun w : World => (Seq.wi_zeroValue 142 w).trans (Try.zeroValue142 w)
def Seq.zeroValue143 := fun w : World => (Seq.wi_zeroValue 143 w).trans (Try.zeroValue143 w)
def Seq.zeroValue144 := fun w : World => (Seq.wi_zeroValue 144 w).trans (Try.zeroValue144 w)
def Seq.zeroValue145 := fun w : World => (Seq.wi_zeroValue 145 w).trans (Try.zeroValue145 w)
def Seq.zeroValue146 := fun w : World => (Seq.wi_zeroValue 146 w).trans (Try.zeroValue146 w)
def Seq.zeroValue147 := fun w : World => (Seq.wi_zeroValue 147 w).trans (Try.zeroValue147 w)
def Seq.zeroValue148 := fun w : World => (Seq.wi_zeroValue 148 w).trans (Try.zeroValue148 w)
def Seq.zeroValue149 := fun w : World => (Seq.wi_zeroValue 149 w).trans (Try.zeroValue149 w)
def Seq.zeroValue150 := fun w : World => (Seq.wi_zeroValue 150 w).trans (Try.zeroValue150 w)
def Seq.zeroValue151 := fun w : World => (Seq.wi_zeroValue 151 w).trans (Try.zeroValue151 w)
def Seq.zeroValue152 := fun w : World => (Seq.wi_zeroValue 152 w).trans (Try.zeroValue152 w)
def Seq.zeroValue153 := fun w : World => (Seq.wi_zeroValue 153 w).trans (Try.zeroValue153 w)
def Seq.zeroValue154 := fun w : World => (Seq.wi_zeroValue 154 w).trans (Try.zeroValue154 w)
def Seq.zeroValue155 := fun w : World => (Seq.wi_zeroValue 155 w).trans (Try.zeroValue155 w)
def Seq.zeroValue156 := fun w : World => (Seq.wi_zeroValue 156 w).trans (Try.zeroValue156 w)
def Seq.zeroValue157 := fun w : World => (Seq.wi_zeroValue 157 w).trans (Try.zeroValue157 w)
def Seq.zeroValue158 := fun w : World => (Seq.wi_zeroValue 158 w).trans (Try.zeroValue158 w)
def Seq.zeroValue159 := fun w : World => (Seq.wi_zeroValue 159 w).trans (Try.zeroValue159 w)
def Seq.zeroValue160 := fun w : World => (Seq.wi_zeroValue 160 w).trans (Try.zeroValue160 w)
def Seq.runUnderlying0 := fun w : World => (Seq.wi_underlying 0 w).trans (Try.runUnderlying0 w)
def Seq.runUnderlying1 := fun w : World => (Seq.wi_underlying 1 w).trans (Try.runUnderlying1 w)
def Seq.runUnderlying2 := fun w : World => (Seq.wi_underlying 2 w).trans (Try.runUnderlying2 w)
def Seq.runUnderlying3 := fun w : World => (Seq.wi_underlying 3 w).trans (Try.runUnderlying3 w)
def Seq.runUnderlying4 := fun w : World => (Seq.wi_underlying 4 w).trans (Try.runUnderlying4 w)
def Seq.runUnderlying5 := fun w : World => (Seq.wi_underlying 5 w).trans (Try.runUnderlying5 w)
def Seq.runUnderlying6 := fun w : World => (Seq.wi_underlying 6 w).trans (Try.runUnderlying6 w)
def Seq.runUnderlying7 := fun w : World => (Seq.wi_underlying 7 w).trans (Try.runUnderlying7 w)
def Seq.runUnderlying8 := fun w : World => (Seq.wi_underlying 8 w).trans (Try.runUnderlying8 w)
def Seq.runUnderlying9 := fun w : World => (Seq.wi_underlying 9 w).trans (Try.runUnderlying9 w)
def Seq.runUnderlying10 := fun w : World => (Seq.wi_underlying 10 w).trans (Try.runUnderlying10 w)
def Seq.runUnderlying11 := fun w : World => (Seq.wi_underlying 11 w).trans (Try.runUnderlying11 w)
def Seq.runUnderlying12 := fun w : World => (Seq.wi_underlying 12 w).trans (Try.runUnderlying12 w)
def Seq.runUnderlying13 := fun w : World => (Seq.wi_underlying 13 w).trans (Try.runUnderlying13 w)
def Seq.runUnderlying14 := fun w : World => (Seq.wi_underlying 14 w).trans (Try.runUnderlying14 w)
def Seq.runUnderlying15 := fun w : World => (Seq.wi_underlying 15 w).trans (Try.runUnderlying15 w)
def Seq.runUnderlying16 := fun w : World => (Seq.wi_underlying 16 w).trans (Try.runUnderlying16 w)
def Seq.runUnderlying17 := fun w : World => (Seq.wi_underlying 17 w).trans (Try.runUnderlying17 w)
def Seq.runUnderlying18 := fun w : World => (Seq.wi_underlying 18 w).trans (Try.runUnderlying18 w)
def Seq.runUnderlying19 := fun w : World => (Seq.wi_underlying 19 w).trans (Try.runUnderlying19 w)
def Seq.runUnderlying20 := fun w : World => (Seq.wi_underlying 20 w).trans (Try.runUnderlying20 w)
def Seq.runUnderlying21 := fun w : World => (Seq.wi_underlying 21 w).trans (Try.runUnderlying21 w)
def Seq.runUnderlying22 := fun w : World => (Seq.wi_underlying 22 w).trans (Try.runUnderlying22 w)
def Seq.runUnderlying23 := fun w : World => (Seq.wi_underlying 23 w).trans (Try.runUnderlying23 w)
def Seq.runUnderlying24 := fun w : World => (Seq.wi_underlying 24 w).trans (Try.runUnderlying24 w)
def Seq.runUnderlying25 := fun w : World => (Seq.wi_underlying 25 w).trans (Try.runUnderlying25 w)
def Seq.runUnderlying26 := fun w : World => (Seq.wi_underlying 26 w).trans (Try.runUnderlying26 w)
def Seq.runUnderlying27 := fun w : World => (Seq.wi_underlying 27 w).trans (Try.runUnderlying27 w)
def Seq.runUnderlying28 := fun w : World => (Seq.wi_underlying 28 w).trans (Try.runUnderlying28 w)
def Seq.runUnderlying29 := fun w : World => (Seq.wi_underlying 29 w).trans (Try.runUnderlying29 w)
def Seq.runUnderlying30 := fun w : World => (Seq.wi_underlying 30 w).trans (Try.runUnderlying30 w)
def Seq.runUnderlying31 := fun w : World => (Seq.wi_underlying 31 w).trans (Try.runUnderlying31 w)
def Seq.runUnderlying32 := fun w : World => (Seq.wi_underlying 32 w).trans (Try.runUnderlying32 w)
def Seq.runUnderlying33 := fun w : World => (Seq.wi_underlying 33 w).trans (Try.runUnderlying33 w)
def Seq.runUnderlying34 := fun w : World => (Seq.wi_underlying 34 w).trans (Try.runUnderlying34 w)
def Seq.runUnderlying35 := fun w : World => (Seq.wi_underlying 35 w).trans (Try.runUnderlying35 w)
def Seq.runUnderlying36 := fun w : World => (Seq.wi_underlying 36 w).trans (Try.runUnderlying36 w)
def Seq.runUnderlying37 := fun w : World => (Seq.wi_underlying 37 w).trans (Try.runUnderlying37 w)
def Seq.runUnderlying38 := fun w : World => (Seq.wi_underlying 38 w).trans (Try.runUnderlying38 w)
def Seq.runUnderlying39 := fun w : World => (Seq.wi_underlying 39 w).trans (Try.runUnderlying39 w)
def Seq.runUnderlying40 := fun w : World => (Seq.wi_underlying 40 w).trans (Try.runUnderlying40 w)
def Seq.runUnderlying41 := fun w : World => (Seq.wi_underlying 41 w).trans (Try.runUnderlying41 w)
def Seq.runUnderlying42 := fun w : World => (Seq.wi_underlying 42 w).trans (Try.runUnderlying42 w)
def Seq.runUnderlying43 := fun w : World => (Seq.wi_underlying 43 w).trans (Try.runUnderlying43 w)
def Seq.runUnderlying44 := fun w : World => (Seq.wi_underlying 44 w).trans (Try.runUnderlying44 w)
def Seq.runUnderlying45 := fun w : World => (Seq.wi_underlying 45 w).trans (Try.runUnderlying45 w)
def Seq.runUnderlying46 := fun w : World => (Seq.wi_underlying 46 w).trans (Try.runUnderlying46 w)
def Seq.runUnderlying47 := fun w : World => (Seq.wi_underlying 47 w).trans (Try.runUnderlying47 w)
def Seq.runUnderlying48 := fun w : World => (Seq.wi_underlying 48 w).trans (Try.runUnderlying48 w)
def Seq.runUnderlying49 := fun w : World => (Seq.wi_underlying 49 w).trans (Try.runUnderlying49 w)
def Seq.runUnderlying50 := fun w : World => (Seq.wi_underlying 50 w).trans (Try.runUnderlying50 w)
def Seq.runUnderlying51 := fun w : World => (Seq.wi_underlying 51 w).trans (Try.runUnderlying51 w)
def Seq.runUnderlying52 := fun w : World => (Seq.wi_underlying 52 w).trans (Try.runUnderlying52 w)
def Seq.runUnderlying53 := fun w : World => (Seq.wi_underlying 53 w).trans (Try.runUnderlying53 w)
def Seq.runUnderlying54 := fun w : World => (Seq.wi_underlying 54 w).trans (Try.runUnderlying54 w)
def Seq.runUnderlying55 := fun w : World => (Seq.wi_underlying 55 w).trans (Try.runUnderlying55 w)
def Seq.runUnderlying56 := fun w : World => (Seq.wi_underlying 56 w).trans (Try.runUnderlying56 w)
def Seq.runUnderlying57 := fun w : World => (Seq.wi_underlying 57 w).trans (Try.runUnderlying57 w)
def Seq.runUnderlying58 := fun w : World => (Seq.wi_underlying 58 w).trans (Try.runUnderlying58 w)
def Seq.runUnderlying59 := fun w : World => (Seq.wi_underlying 59 w).trans (Try.runUnderlying59 w)
def Seq.runUnderlying60 := fun w : World => (Seq.wi_underlying 60 w).trans (Try.runUnderlying60 w)
def Seq.runUnderlying61 := fun w : World => (Seq.wi_underlying 61 w).trans (Try.runUnderlying61 w)
def Seq.runUnderlying62 := fun w : World => (Seq.wi_underlying 62 w).trans (Try.runUnderlying62 w)
def Seq.runUnderlying63 := fun w : World => (Seq.wi_underlying 63 w).trans (Try.runUnderlying63 w)
def Seq.runUnderlying64 := fun w : World => (Seq.wi_underlying 64 w).trans (Try.runUnderlying64 w)
def Seq.runUnderlying65 := fun w : World => (Seq.wi_underlying 65 w).trans (Try.runUnderlying65 w)
def Seq.runUnderlying66 := fun w : World => (Seq.wi_underlying 66 w).trans (Try.runUnderlying66 w)
def Seq.runUnderlying67 := fun w : World => (Seq.wi_underlying 67 w).trans (Try.runUnderlying67 w)
def Seq.runUnderlying68 := fun w : World => (Seq.wi_underlying 68 w).trans (Try.runUnderlying68 w)
def Seq.runUnderlying69 := fun w : World => (Seq.wi_underlying 69 w).trans (Try.runUnderlying69 w)
def Seq.runUnderlying70 := fun w : World => (Seq.wi_underlying 70 w).trans (Try.runUnderlying70 w)
def Seq.runUnderlying71 := fun w : World => (Seq.wi_underlying 71 w).trans (Try.runUnderlying71 w)
def Seq.runUnderlying72 := fun w : World => (Seq.wi_underlying 72 w).trans (Try.runUnderlying72 w)
def Seq.runUnderlying73 := fun w : World => (Seq.wi_underlying 73 w).trans (Try.runUnderlying73 w)
def Seq.runUnderlying74 := fun w : World => (Seq.wi_underlying 74 w).trans (Try.runUnderlying74 w)
def Seq.runUnderlying75 := fun w : World => (Seq.wi_underlying 75 w).trans (Try.runUnderlying75 w)
def Seq.runUnderlying76 := fun w : World => (Seq.wi_underlying 76 w).trans (Try.runUnderlying76 w)
def Seq.runUnderlying77 := fun w : World => (Seq.wi_underlying 77 w).trans (Try.runUnderlying77 w)
def Seq.runUnderlying78 := fun w : World => (Seq.wi_underlying 78 w).trans (Try.runUnderlying78 w)
def Seq.runUnderlying79 := fun w : World => (Seq.wi_underlying 79 w).trans (Try.runUnderlying79 w)
def Seq.runUnderlying80 := fun w : World => (Seq.wi_underlying 80 w).trans (Try.runUnderlying80 w)
def Seq.runUnderlying81 := fun w : World => (Seq.wi_underlying 81 w).trans (Try.runUnderlying81 w)
def Seq.runUnderlying82 := fun w : World => (Seq.wi_underlying 82 w).trans (Try.runUnderlying82 w)
def Seq.runUnderlying83 := fun w : World => (Seq.wi_underlying 83 w).trans (Try.runUnderlying83 w)
def Seq.runUnderlying84 := fun w : World => (Seq.wi_underlying 84 w).trans (Try.runUnderlying84 w)
def Seq.runUnderlying85 := fun w : World => (Seq.wi_underlying 85 w).trans (Try.runUnderlying85 w)
def Seq.runUnderlying86 := fun w : World => (Seq.wi_underlying 86 w).trans (Try.runUnderlying86 w)
def Seq.runUnderlying87 := fun w : World => (Seq.wi_underlying 87 w).trans (Try.runUnderlying87 w)
def Seq.runUnderlying88 := fun w : World => (Seq.wi_underlying 88 w).trans (Try.runUnderlying88 w)
def Seq.runUnderlying89 := fun w : World => (Seq.wi_underlying 89 w).trans (Try.runUnderlying89 w)
def Seq.runUnderlying90 := fun w : World => (Seq.wi_underlying 90 w).trans (Try.runUnderlying90 w)
def Seq.runUnderlying91 := fun w : World => (Seq.wi_underlying 91 w).trans (Try.runUnderlying91 w)
def Seq.runUnderlying92 := fun w : World => (Seq.wi_underlying 92 w).trans (Try.runUnderlying92 w)
def Seq.runUnderlying93 := fun w : World => (Seq.wi_underlying 93 w).trans (Try.runUnderlying93 w)
def Seq.runUnderlying94 := fun w : World => (Seq.wi_underlying 94 w).trans (Try.runUnderlying94 w)
def Seq.runUnderlying95 := fun w : World => (Seq.wi_underlying 95 w).trans (Try.runUnderlying95 w)
def Seq.runUnderlying96 := fun w : World => (Seq.wi_underlying 96 w).trans (Try.runUnderlying96 w)
def Seq.runUnderlying97 := fun w : World => (Seq.wi_underlying 97 w).trans (Try.runUnderlying97 w)
def Seq.runUnderlying98 := fun w : World => (Seq.wi_underlying 98 w).trans (Try.runUnderlying98 w)
def Seq.runUnderlying99 := fun w : World => (Seq.wi_underlying 99 w).trans (Try.runUnderlying99 w)
def Seq.runUnderlying100 := fun w : World => (Seq.wi_underlying 100 w).trans (Try.runUnderlying100 w)
def Seq.runUnderlying101 := fun w : World => (Seq.wi_underlying 101 w).trans (Try.runUnderlying101 w)
def Seq.runUnderlying102 := fun w : World => (Seq.wi_underlying 102 w).trans (Try.runUnderlying102 w)
def Seq.runUnderlying103 := fun w : World => (Seq.wi_underlying 103 w).trans (Try.runUnderlying103 w)
def Seq.runUnderlying104 := fun w : World => (Seq.wi_underlying 104 w).trans (Try.runUnderlying104 w)
def Seq.runUnderlying105 := fun w : World => (Seq.wi_underlying 105 w).trans (Try.runUnderlying105 w)
def Seq.runUnderlying106 := fun w : World => (Seq.wi_underlying 106 w).trans (Try.runUnderlying106 w)
def Seq.runUnderlying107 := fun w : World => (Seq.wi_underlying 107 w).trans (Try.runUnderlying107 w)
def Seq.runUnderlying108 := fun w : World => (Seq.wi_underlying 108 w).trans (Try.runUnderlying108 w)
def Seq.runUnderlying109 := fun w : World => (Seq.wi_underlying 109 w).trans (Try.runUnderlying109 w)
def Seq.runUnderlying110 := fun w : World => (Seq.wi_underlying 110 w).trans (Try.runUnderlying110 w)
def Seq.runUnderlying111 := fun w : World => (Seq.wi_underlying 111 w).trans (Try.runUnderlying111 w)
def Seq.runUnderlying112 := fun w : World => (Seq.wi_underlying 112 w).trans (Try.runUnderlying112 w)
def Seq.runUnderlying113 := fun w : World => (Seq.wi_underlying 113 w).trans (Try.runUnderlying113 w)
def Seq.runUnderlying114 := fun w : World => (Seq.wi_underlying 114 w).trans (Try.runUnderlying114 w)
def Seq.runUnderlying115 := fun w : World => (Seq.wi_underlying 115 w).trans (Try.runUnderlying115 w)
def Seq.runUnderlying116 := fun w : World => (Seq.wi_underlying 116 w).trans (Try.runUnderlying116 w)
def Seq.runUnderlying117 := fun w : World => (Seq.wi_underlying 117 w).trans (Try.runUnderlying117 w)
def Seq.runUnderlying118 := fun w : World => (Seq.wi_underlying 118 w).trans (Try.runUnderlying118 w)
def Seq.runUnderlying119 := fun w : World => (Seq.wi_underlying 119 w).trans (Try.runUnderlying119 w)
def Seq.runUnderlying120 := fun w : World => (Seq.wi_underlying 120 w).trans (Try.runUnderlying120 w)
def Seq.runUnderlying121 := fun w : World => (Seq.wi_underlying 121 w).trans (Try.runUnderlying121 w)
def Seq.runUnderlying122 := fun w : World => (Seq.wi_underlying 122 w).trans (Try.runUnderlying122 w)
def Seq.runUnderlying123 := fun w : World => (Seq.wi_underlying 123 w).trans (Try.runUnderlying123 w)
def Seq.runUnderlying124 := fun w : World => (Seq.wi_underlying 124 w).trans (Try.runUnderlying124 w)
def Seq.runUnderlying125 := fun w : World => (Seq.wi_underlying 125 w).trans (Try.runUnderlying125 w)
def Seq.runUnderlying126 := fun w : World => (Seq.wi_underlying 126 w).trans (Try.runUnderlying126 w)
def Seq.runUnderlying127 := fun w : World => (Seq.wi_underlying 127 w).trans (Try.runUnderlying127 w)
def Seq.runUnderlying128 := fun w : World => (Seq.wi_underlying 128 w).trans (Try.runUnderlying128 w)
def Seq.runUnderlying129 := fun w : World => (Seq.wi_underlying 129 w).trans (Try.runUnderlying129 w)
def Seq.runUnderlying130 := fun w : World => (Seq.wi_underlying 130 w).trans (Try.runUnderlying130 w)
def Seq.runUnderlying131 := fun w : World => (Seq.wi_underlying 131 w).trans (Try.runUnderlying131 w)
def Seq.runUnderlying132 := fun w : World => (Seq.wi_underlying 132 w).trans (Try.runUnderlying132 w)
def Seq.runUnderlying133 := fun w : World => (Seq.wi_underlying 133 w).trans (Try.runUnderlying133 w)
def Seq.runUnderlying134 := fun w : World => (Seq.wi_underlying 134 w).trans (Try.runUnderlying134 w)
def Seq.runUnderlying135 := fun w : World => (Seq.wi_underlying 135 w).trans (Try.runUnderlying135 w)
def Seq.runUnderlying136 := fun w : World => (Seq.wi_underlying 136 w).trans (Try.runUnderlying136 w)
def Seq.runUnderlying137 := fun w : World => (Seq.wi_underlying 137 w).trans (Try.runUnderlying137 w)
def Seq.runUnderlying138 := fun w : World => (Seq.wi_underlying 138 w).trans (Try.runUnderlying138 w)
def Seq.runUnderlying139 := fun w : World => (Seq.wi_underlying 139 w).trans (Try.runUnderlying139 w)
def Seq.runUnderlying140 := fun w : World => (Seq.wi_underlying 140 w).trans (Try.runUnderlying140 w)
def Seq.runUnderlying141 := fun w : World => (Seq.wi_underlying 141 w).trans (Try.runUnderlying141 w)
def Seq.runUnderlying142 := fun w : World => (Seq.wi_underlying 142 w).trans (Try.runUnderlying142 w)
def Seq.runUnderlying143 := fun w : World => (Seq.wi_underlying 143 w).trans (Try.runUnderlying143 w)
def Seq.runUnderlying144 := fun w : World => (Seq.wi_underlying 144 w).trans (Try.runUnderlying144 w)
def Seq.runUnderlying145 := fun w : World => (Seq.wi_underlying 145 w).trans (Try.runUnderlying145 w)
def Seq.runUnderlying146 := fun w : World => (Seq.wi_underlying 146 w).trans (Try.runUnderlying146 w)
def Seq.runUnderlying147 := fun w : World => (Seq.wi_underlying 147 w).trans (Try.runUnderlying147 w)
def Seq.runUnderlying148 := fun w : World => (Seq.wi_underlying 148 w).trans (Try.runUnderlying148 w)
def Seq.runUnderlying149 := fun w : World => (Seq.wi_underlying 149 w).trans (Try.runUnderlying149 w)
def Seq.runUnderlying150 := fun w : World => (Seq.wi_underlying 150 w).trans (Try.runUnderlying150 w)
def Seq.runUnderlying151 := fun w : World => (Seq.wi_underlying 151 w).trans (Try.runUnderlying151 w)
def Seq.runUnderlying152 := fun w : World => (Seq.wi_underlying 152 w).trans (Try.runUnderlying152 w)
def Seq.runUnderlying153 := fun w : World => (Seq.wi_underlying 153 w).trans (Try.runUnderlying153 w)
def Seq.runUnderlying154 := fun w : World => (Seq.wi_underlying 154 w).trans (Try.runUnderlying154 w)
def Seq.runUnderlying155 := fun w : World => (Seq.wi_underlying 155 w).trans (Try.runUnderlying155 w)
def Seq.runUnderlying156 := fun w : World => (Seq.wi_underlying 156 w).trans (Try.runUnderlying156 w)
def Seq.runUnderlying157 := fun w : World => (Seq.wi_underlying 157 w).trans (Try.runUnderlying157 w)
def Seq.runUnderlying158 := fun w : World => (Seq.wi_underlying 158 w).trans (Try.runUnderlying158 w)
def Seq.runUnderlying159 := fun w : World => (Seq.wi_underlying 159 w).trans (Try.runUnderlying159 w)
def Seq.runUnderlying160 := fun w : World => (Seq.wi_underlying 160 w).trans (Try.runUnderlying160 w)
def Seq.ntmps3 := @Try.ntmps3
def Seq.results3 := @Try.results3
def Seq.params3 := @Try.params3
def Seq.nfree3 := @Try.nfree3
def Seq.ntmps7 := @Try.ntmps7
def Seq.results7 := @Try.results7
def Seq.params7 := @Try.params7
def Seq.nfree7 := @Try.nfree7
def Seq.ntmps8 := @Try.ntmps8
def Seq.results8 := @Try.results8
def Seq.params8 := @Try.params8
def Seq.nfree8 := @Try.nfree8
def Seq.ntmps9 := @Try.ntmps9
def Seq.results9 := @Try.results9
def Seq.params9 := @Try.params9
def Seq.nfree9 := @Try.nfree9
def Seq.ntmps10 := @Try.ntmps10
def Seq.results10 := @Try.results10
def Seq.params10 := @Try.params10
def Seq.nfree10 := @Try.nfree10
def Seq.ntmps11 := @Try.ntmps11
def Seq.results11 := @Try.results11
def Seq.params11 := @Try.params11
def Seq.nfree11 := @Try.nfree11
def Seq.ntmps12 := @Try.ntmps12
def Seq.results12 := @Try.results12
def Seq.params12 := @Try.params12
def Seq.nfree12 := @Try.nfree12
def Seq.ntmps13 := @Try.ntmps13
def Seq.results13 := @Try.results13
def Seq.params13 := @Try.params13
def Seq.nfree13 := @Try.nfree13
def Seq.ntmps14 := @Try.ntmps14
def Seq.results14 := @Try.results14
def Seq.params14 := @Try.params14
def Seq.nfree14 := @Try.nfree14
def Seq.ntmps16 := @Try.ntmps16
def Seq.results16 := @Try.results16
def Seq.params16 := @Try.params16
def Seq.nfree16 := @Try.nfree16
def Seq.ntmps18 := @Try.ntmps18
def Seq.results18 := @Try.results18
def Seq.params18 := @Try.params18
def Seq.nfree18 := @Try.nfree18
def Seq.ntmps20 := @Try.ntmps20
def Seq.results20 := @Try.results20
def Seq.params20 := @Try.params20
def Seq.nfree20 := @Try.nfree20
def Seq.ntmps21 := @Try.ntmps21
def Seq.results21 := @Try.results21
def Seq.params21 := @Try.params21
def Seq.nfree21 := @Try.nfree21
def Seq.ntmps23 := @Try.ntmps23
def Seq.results23 := @Try.results23
def Seq.params23 := @Try.params23
def Seq.nfree23 := @Try.nfree23
def Seq.ntmps24 := @Try.ntmps24
def Seq.results24 := @Try.results24
def Seq.params24 := @Try.params24
def Seq.nfree24 := @Try.nfree24
def Seq.ntmps25 := @Try.ntmps25
def Seq.results25 := @Try.results25
def Seq.params25 := @Try.params25
def Seq.nfree25 := @Try.nfree25
def Seq.ntmps26 := @Try.ntmps26
def Seq.results26 := @Try.results26
def Seq.params26 := @Try.params26
def Seq.nfree26 := @Try.nfree26
def Seq.ntmps27 := @Try.ntmps27
def Seq.results27 := @Try.results27
def Seq.params27 := @Try.params27
def Seq.nfree27 := @Try.nfree27
def Seq.ntmps28 := @Try.ntmps28
def Seq.results28 := @Try.results28
def Seq.params28 := @Try.params28
def Seq.nfree28 := @Try.nfree28
def Seq.ntmps29 := @Try.ntmps29
def Seq.results29 := @Try.results29
def Seq.params29 := @Try.params29
def Seq.nfree29 := @Try.nfree29
def Seq.ntmps32 := @Try.ntmps32
def Seq.results32 := @Try.results32
def Seq.params32 := @Try.params32
def Seq.nfree32 := @Try.nfree32
def Seq.ntmps33 := @Try.ntmps33
def Seq.results33 := @Try.results33
def Seq.params33 := @Try.params33
def Seq.nfree33 := @Try.nfree33
def Seq.ntmps37 := @Try.ntmps37
def Seq.results37 := @Try.results37
def Seq.params37 := @Try.params37
def Seq.nfree37 := @Try.nfree37
def Seq.ntmps39 := @Try.ntmps39
def Seq.results39 := @Try.results39
def Seq.params39 := @Try.params39
def Seq.nfree39 := @Try.nfree39
def Seq.ntmps40 := @Try.ntmps40
def Seq.results40 := @Try.results40
def Seq.params40 := @Try.params40
def Seq.nfree40 := @Try.nfree40
def Seq.ntmps41 := @Try.ntmps41
def Seq.results41 := @Try.results41
def Seq.params41 := @Try.params41
def Seq.nfree41 := @Try.nfree41
def Seq.ntmps42 := @Try.ntmps42
def Seq.results42 := @Try.results42
def Seq.params42 := @Try.params42
def Seq.nfree42 := @Try.nfree42
def Seq.ntmps43 := @Try.ntmps43
def Seq.results43 := @Try.results43
def Seq.params43 := @Try.params43
def Seq.nfree43 := @Try.nfree43
def Seq.ntmps44 := @Try.ntmps44
def Seq.results44 := @Try.results44
def Seq.params44 := @Try.params44
def Seq.nfree44 := @Try.nfree44
def Seq.ntmps45 := @Try.ntmps45
def Seq.results45 := @Try.results45
def Seq.params45 := @Try.params45
def Seq.nfree45 := @Try.nfree45
def Seq.ntmps46 := @Try.ntmps46
def Seq.results46 := @Try.results46
def Seq.params46 := @Try.params46
def Seq.nfree46 := @Try.nfree46
def Seq.ntmps47 := @Try.ntmps47
def Seq.results47 := @Try.results47
def Seq.params47 := @Try.params47
def Seq.nfree47 := @Try.nfree47
def Seq.ntmps48 := @Try.ntmps48
def Seq.results48 := @Try.results48
def Seq.params48 := @Try.params48
def Seq.nfree48 := @Try.nfree48
def Seq.ntmps49 := @Try.ntmps49
def Seq.results49 := @Try.results49
def Seq.params49 := @Try.params49
def Seq.nfree49 := @Try.nfree49
def Seq.ntmps50 := @Try.ntmps50
def Seq.results50 := @Try.results50
def Seq.params50 := @Try.params50
def Seq.nfree50 := @Try.nfree50
def Seq.ntmps52 := @Try.ntmps52
def Seq.results52 := @Try.results52
def Seq.params52 := @Try.params52
def Seq.nfree52 := @Try.nfree52
def Seq.ntmps53 := @Try.ntmps53
def Seq.results53 := @Try.results53
def Seq.params53 := @Try.params53
def Seq.nfree53 := @Try.nfree53
def Seq.ntmps54 := @Try.ntmps54
def Seq.results54 := @Try.results54
def Seq.params54 := @Try.params54
def Seq.nfree54 := @Try.nfree54
def Seq.ntmps68 := @Try.ntmps68
def Seq.results68 := @Try.results68
def Seq.params68 := @Try.params68
def Seq.nfree68 := @Try.nfree68
def Seq.ntmps69 := @Try.ntmps69
def Seq.results69 := @Try.results69
def Seq.params69 := @Try.params69
def Seq.nfree69 := @Try.nfree69
def Seq.ntmps70 := @Try.ntmps70
def Seq.results70 := @Try.results70
def Seq.params70 := @Try.params70
def Seq.nfree70 := @Try.nfree70
def Seq.ntmps76 := @Try.ntmps76
def Seq.results76 := @Try.results76
def Seq.params76 := @Try.params76
def Seq.nfree76 := @Try.nfree76
def Seq.ntmps77 := @Try.ntmps77
def Seq.results77 := @Try.results77
def Seq.params77 := @Try.params77
def Seq.nfree77 := @Try.nfree77
def Seq.ntmps78 := @Try.ntmps78
def Seq.results78 := @Try.results78
def Seq.params78 := @Try.params78
def Seq.nfree78 := @Try.nfree78
def Seq.ntmps79 := @Try.ntmps79
def Seq.results79 := @Try.results79
def Seq.params79 := @Try.params79
def Seq.nfree79 := @Try.nfree79
def Seq.ntmps80 := @Try.ntmps80
def Seq.results80 := @Try.results80
def Seq.params80 := @Try.params80
def Seq.nfree80 := @Try.nfree80
def Seq.ntmps81 := @Try.ntmps81
def Seq.results81 := @Try.results81
def Seq.params81 := @Try.params81
def Seq.nfree81 := @Try.nfree81
def Seq.ntmps82 := @Try.ntmps82
def Seq.results82 := @Try.results82
def Seq.params82 := @Try.params82
def Seq.nfree82 := @Try.nfree82
def Seq.ntmps83 := @Try.ntmps83
def Seq.results83 := @Try.results83
def Seq.params83 := @Try.params83
def Seq.nfree83 := @Try.nfree83
def Seq.ntmps84 := @Try.ntmps84
def Seq.results84 := @Try.results84
def Seq.params84 := @Try.params84
def Seq.nfree84 := @Try.nfree84
def Seq.ntmps85 := @Try.ntmps85
def Seq.results85 := @Try.results85
def Seq.params85 := @Try.params85
def Seq.nfree85 := @Try.nfree85
def Seq.ntmps86 := @Try.ntmps86
def Seq.results86 := @Try.results86
def Seq.params86 := @Try.params86
def Seq.nfree86 := @Try.nfree86
def Seq.ntmps87 := @Try.ntmps87
def Seq.results87 := @Try.results87
def Seq.params87 := @Try.params87
def Seq.nfree87 := @Try.nfree87
def Seq.ntmps89 := @Try.ntmps89
def Seq.results89 := @Try.results89
def Seq.params89 := @Try.params89
def Seq.nfree89 := @Try.nfree89
def Seq.ntmps94 := @Try.ntmps94
def Seq.results94 := @Try.results94
def Seq.params94 := @Try.params94
def Seq.nfree94 := @Try.nfree94
def Seq.ntmps96 := @Try.ntmps96
def Seq.results96 := @Try.results96
def Seq.params96 := @Try.params96
def Seq.nfree96 := @Try.nfree96
def Seq.ntmps97 := @Try.ntmps97
def Seq.results97 := @Try.results97
def Seq.params97 := @Try.params97
def Seq.nfree97 := @Try.nfree97
def Seq.ntmps98 := @Try.ntmps98
def Seq.results98 := @Try.results98
def Seq.params98 := @Try.params98
def Seq.nfree98 := @Try.nfree98
def Seq.ntmps99 := @Try.ntmps99
def Seq.results99 := @Try.results99
def Seq.params99 := @Try.params99
def Seq.nfree99 := @Try.nfree99
def Seq.ntmps100 := @Try.ntmps100
def Seq.results100 := @Try.results100
def Seq.params100 := @Try.params100
def Seq.nfree100 := @Try.nfree100
def Seq.ntmps101 := @Try.ntmps101
def Seq.results101 := @Try.results101
def Seq.params101 := @Try.params101
def Seq.nfree101 := @Try.nfree101
def Seq.ntmps102 := @Try.ntmps102
def Seq.results102 := @Try.results102
def Seq.params102 := @Try.params102
def Seq.nfree102 := @Try.nfree102
def Seq.ntmps103 := @Try.ntmps103
def Seq.results103 := @Try.results103
def Seq.params103 := @Try.params103
def Seq.nfree103 := @Try.nfree103
def Seq.ntmps104 := @Try.ntmps104
def Seq.results104 := @Try.results104
def Seq.params104 := @Try.params104
def Seq.nfree104 := @Try.nfree104
theorem Seq.func7 : Seq.prog.funcs[7]? = some Try.f7 := seq_func (by decide) Try.func7 (by kernel_rfl)
theorem Seq.func9 : Seq.prog.funcs[9]? = some Try.f9 := seq_func (by decide) Try.func9 (by kernel_rfl)
theorem Seq.func11 : Seq.prog.funcs[11]? = some Try.f11 := seq_func (by decide) Try.func11 (by kernel_rfl)
theorem Seq.func13 : Seq.prog.funcs[13]? = some Try.f13 := seq_func (by decide) Try.func13 (by kernel_rfl)
theorem Seq.func14 : Seq.prog.funcs[14]? = some Try.f14 := seq_func (by decide) Try.func14 (by kernel_rfl)
theorem Seq.func16 : Seq.prog.funcs[16]? = some Try.f16 := seq_func (by decide) Try.func16 (by kernel_rfl)
theorem Seq.func18 : Seq.prog.funcs[18]? = some Try.f18 := seq_func (by decide) Try.func18 (by kernel_rfl)
theorem Seq.func21 : Seq.prog.funcs[21]? = some Try.f21 := seq_func (by decide) Try.func21 (by kernel_rfl)
theorem Seq.func24 : Seq.prog.funcs[24]? = some Try.f24 := seq_func (by decide) Try.func24 (by kernel_rfl)
theorem Seq.func25 : Seq.prog.funcs[25]? = some Try.f25 := seq_func (by decide) Try.func25 (by kernel_rfl)
theorem Seq.func26 : Seq.prog.funcs[26]? = some Try.f26 := seq_func (by decide) Try.func26 (by kernel_rfl)
theorem Seq.func27 : Seq.prog.funcs[27]? = some Try.f27 := seq_func (by decide) Try.func27 (by kernel_rfl)
theorem Seq.func28 : Seq.prog.funcs[28]? = some Try.f28 := seq_func (by decide) Try.func28 (by kernel_rfl)
theorem Seq.func29 : Seq.prog.funcs[29]? = some Try.f29 := seq_func (by decide) Try.func29 (by kernel_rfl)
theorem Seq.func32 : Seq.prog.funcs[32]? = some Try.f32 := seq_func (by decide) Try.func32 (by kernel_rfl)
theorem Seq.func33 : Seq.prog.funcs[33]? = some Try.f33 := seq_func (by decide) Try.func33 (by kernel_rfl)
theorem Seq.func42 : Seq.prog.funcs[42]? = some Try.f42 := seq_func (by decide) Try.func42 (by kernel_rfl)
theorem Seq.func43 : Seq.prog.funcs[43]? = some Try.f43 := seq_func (by decide) Try.func43 (by kernel_rfl)
theorem Seq.func44 : Seq.prog.funcs[44]? = some Try.f44 := seq_func (by decide) Try.func44 (by kernel_rfl)
theorem Seq.func45 : Seq.prog.funcs[45]? = some Try.f45 := seq_func (by decide) Try.func45 (by kernel_rfl)
theorem Seq.func46 : Seq.prog.funcs[46]? = some Try.f46 := seq_func (by decide) Try.func46 (by kernel_rfl)
theorem Seq.func47 : Seq.prog.funcs[47]? = some Try.f47 := seq_func (by decide) Try.func47 (by kernel_rfl)
theorem Seq.func48 : Seq.prog.funcs[48]? = some Try.f48 := seq_func (by decide) Try.func48 (by kernel_rfl)
theorem Seq.func49 : Seq.prog.funcs[49]? = some Try.f49 := seq_func (by decide) Try.func49 (by kernel_rfl)
theorem Seq.func50 : Seq.prog.funcs[50]? = some Try.f50 := seq_func (by decide) Try.func50 (by kernel_rfl)
theorem Seq.func52 : Seq.prog.funcs[52]? = some Try.f52 := seq_func (by decide) Try.func52 (by kernel_rfl)
theorem Seq.func53 : Seq.prog.funcs[53]? = some Try.f53 := seq_func (by decide) Try.func53 (by kernel_rfl)
theorem Seq.func54 : Seq.prog.funcs[54]? = some Try.f54 := seq_func (by decide) Try.func54 (by kernel_rfl)
theorem Seq.func70 : Seq.prog.funcs[70]? = some Try.f70 := seq_func (by decide) Try.func70 (by kernel_rfl)
theorem Seq.func76 : Seq.prog.funcs[76]? = some Try.f76 := seq_func (by decide) Try.func76 (by kernel_rfl)
theorem Seq.func77 : Seq.prog.funcs[77]? = some Try.f77 := seq_func (by decide) Try.func77 (by kernel_rfl)
theorem Seq.func78 : Seq.prog.funcs[78]? = some Try.f78 := seq_func (by decide) Try.func78 (by kernel_rfl)
theorem Seq.func79 : Seq.prog.funcs[79]? = some Try.f79 := seq_func (by decide) Try.func79 (by kernel_rfl)
theorem Seq.func80 : Seq.prog.funcs[80]? = some Try.f80 := seq_func (by decide) Try.func80 (by kernel_rfl)
theorem Seq.func81 : Seq.prog.funcs[81]? = some Try.f81 := seq_func (by decide) Try.func81 (by kernel_rfl)
theorem Seq.func82 : Seq.prog.funcs[82]? = some Try.f82 := seq_func (by decide) Try.func82 (by kernel_rfl)
theorem Seq.func83 : Seq.prog.funcs[83]? = some Try.f83 := seq_func (by decide) Try.func83 (by kernel_rfl)
theorem Seq.func84 : Seq.prog.funcs[84]? = some Try.f84 := seq_func (by decide) Try.func84 (by kernel_rfl)
theorem Seq.func85 : Seq.prog.funcs[85]? = some Try.f85 := seq_func (by decide) Try.func85 (by kernel_rfl)
theorem Seq.func86 : Seq.prog.funcs[86]? = some Try.f86 := seq_func (by decide) Try.func86 (by kernel_rfl)
theorem Seq.func87 : Seq.prog.funcs[87]? = some Try.f87 := seq_func (by decide) Try.func87 (by kernel_rfl)
theorem Seq.func94 : Seq.prog.funcs[94]? = some Try.f94 := seq_func (by decide) Try.func94 (by kernel_rfl)
theorem Seq.func96 : Seq.prog.funcs[96]? = some Try.f96 := seq_func (by decide) Try.func96 (by kernel_rfl)
theorem Seq.func97 : Seq.prog.funcs[97]? = some Try.f97 := seq_func (by decide) Try.func97 (by kernel_rfl)
theorem Seq.func98 : Seq.prog.funcs[98]? = some Try.f98 := seq_func (by decide) Try.func98 (by kernel_rfl)
theorem Seq.func99 : Seq.prog.funcs[99]? = some Try.f99 := seq_func (by decide) Try.func99 (by kernel_rfl)
theorem Seq.func100 : Seq.prog.funcs[100]? = some Try.f100 := seq_func (by decide) Try.func100 (by kernel_rfl)
theorem Seq.func101 : Seq.prog.funcs[101]? = some Try.f101 := seq_func (by decide) Try.func101 (by kernel_rfl)
theorem Seq.func102 : Seq.prog.funcs[102]? = some Try.f102 := seq_func (by decide) Try.func102 (by kernel_rfl)
theorem Seq.func103 : Seq.prog.funcs[103]? = some Try.f103 := seq_func (by decide) Try.func103 (by kernel_rfl)
theorem Seq.func104 : Seq.prog.funcs[104]? = some Try.f104 := seq_func (by decide) Try.func104 (by kernel_rfl)
@[simp] theorem Seq.call3 (args : Array Value) (w : World) : (callFunc 3 args).run Seq.prog w = .ok (.enter 3 args) w := enters_of Seq.func3 (by kernel_rfl) rfl args w
@[simp] theorem Seq.call7 (args : Array Value) (w : World) : (callFunc 7 args).run Seq.prog w = .ok (.enter 7 args) w := enters_of Seq.func7 (by kernel_rfl) rfl args w
@[simp] theorem Seq.call8 (args : Array Value) (w : World) : (callFunc 8 args).run Seq.prog w = .ok (.enter 8 args) w := enters_of Seq.func8 (by kernel_rfl) rfl args w
@[simp] theorem Seq.call9 (args : Array Value) (w : World) : (callFunc 9 args).run Seq.prog w = .ok (.enter 9 args) w := enters_of Seq.func9 (by kernel_rfl) rfl args w
@[simp] theorem Seq.call10 (args : Array Value) (w : World) : (callFunc 10 args).run Seq.prog w = .ok (.enter 10 args) w := enters_of Seq.func10 (by kernel_rfl) rfl args w
@[simp] theorem Seq.call11 (args : Array Value) (w : World) : (callFunc 11 args).run Seq.prog w = .ok (.enter 11 args) w := enters_of Seq.func11 (by kernel_rfl) rfl args w
@[simp] theorem Seq.call12 (args : Array Value) (w : World) : (callFunc 12 args).run Seq.prog w = .ok (.enter 12 args) w := enters_of Seq.func12 (by kernel_rfl) rfl args w
@[simp] theorem Seq.call13 (args : Array Value) (w : World) : (callFunc 13 args).run Seq.prog w = .ok (.enter 13 args) w := enters_of Seq.func13 (by kernel_rfl) rfl args w
@[simp] theorem Seq.call14 (args : Array Value) (w : World) : (callFunc 14 args).run Seq.prog w = .ok (.enter 14 args) w := enters_of Seq.func14 (by kernel_rfl) rfl args w
@[simp] theorem Seq.call16 (args : Array Value) (w : World) : (callFunc 16 args).run Seq.prog w = .ok (.enter 16 args) w := enters_of Seq.func16 (by kernel_rfl) rfl args w
@[simp] theorem Seq.call18 (args : Array Value) (w : World) : (callFunc 18 args).run Seq.prog w = .ok (.enter 18 args) w := enters_of Seq.func18 (by kernel_rfl) rfl args w
@[simp] theorem Seq.call20 (args : Array Value) (w : World) : (callFunc 20 args).run Seq.prog w = .ok (.enter 20 args) w := enters_of Seq.func20 (by kernel_rfl) rfl args w
@[simp] theorem Seq.call21 (args : Array Value) (w : World) : (callFunc 21 args).run Seq.prog w = .ok (.enter 21 args) w := enters_of Seq.func21 (by kernel_rfl) rfl args w
@[simp] theorem Seq.call23 (args : Array Value) (w : World) : (callFunc 23 args).run Seq.prog w = .ok (.enter 23 args) w := enters_of Seq.func23 (by kernel_rfl) rfl args w
@[simp] theorem Seq.call24 (args : Array Value) (w : World) : (callFunc 24 args).run Seq.prog w = .ok (.enter 24 args) w := enters_of Seq.func24 (by kernel_rfl) rfl args w
@[simp] theorem Seq.call25 (args : Array Value) (w : World) : (callFunc 25 args).run Seq.prog w = .ok (.enter 25 args) w := enters_of Seq.func25 (by kernel_rfl) rfl args w
@[simp] theorem Seq.call26 (args : Array Value) (w : World) : (callFunc 26 args).run Seq.prog w = .ok (.enter 26 args) w := enters_of Seq.func26 (by kernel_rfl) rfl args w
@[simp] theorem Seq.call27 (args : Array Value) (w : World) : (callFunc 27 args).run Seq.prog w = .ok (.enter 27 args) w := enters_of Seq.func27 (by kernel_rfl) rfl args w
@[simp] theorem Seq.call28 (args : Array Value) (w : World) : (callFunc 28 args).run Seq.prog w = .ok (.enter 28 args) w := enters_of Seq.func28 (by kernel_rfl) rfl args w
@[simp] theorem Seq.call29 (args : Array Value) (w : World) : (callFunc 29 args).run Seq.prog w = .ok (.enter 29 args) w := enters_of Seq.func29 (by kernel_rfl) rfl args w
@[simp] theorem Seq.call32 (args : Array Value) (w : World) : (callFunc 32 args).run Seq.prog w = .ok (.enter 32 args) w := enters_of Seq.func32 (by kernel_rfl) rfl args w
@[simp] theorem Seq.call33 (args : Array Value) (w : World) : (callFunc 33 args).run Seq.prog w = .ok (.enter 33 args) w := enters_of Seq.func33 (by kernel_rfl) rfl args w
@[simp] theorem Seq.call37 (args : Array Value) (w : World) : (callFunc 37 args).run Seq.prog w = .ok (.enter 37 args) w := enters_of Seq.func37 (by kernel_rfl) rfl args w
@[simp] theorem Seq.call39 (args : Array Value) (w : World) : (callFunc 39 args).run Seq.prog w = .ok (.enter 39 args) w := enters_of Seq.func39 (by kernel_rfl) rfl args w
@[simp] theorem Seq.call40 (args : Array Value) (w : World) : (callFunc 40 args).run Seq.prog w = .ok (.enter 40 args) w := enters_of Seq.func40 (by kernel_rfl) rfl args w
@[simp] theorem Seq.call41 (args : Array Value) (w : World) : (callFunc 41 args).run Seq.prog w = .ok (.enter 41 args) w := enters_of Seq.func41 (by kernel_rfl) rfl args w
@[simp] theorem Seq.call42 (args : Array Value) (w : World) : (callFunc 42 args).run Seq.prog w = .ok (.enter 42 args) w := enters_of Seq.func42 (by kernel_rfl) rfl args w
@[simp] theorem Seq.call43 (args : Array Value) (w : World) : (callFunc 43 args).run Seq.prog w = .ok (.enter 43 args) w := enters_of Seq.func43 (by kernel_rfl) rfl args w
@[simp] theorem Seq.call44 (args : Array Value) (w : World) : (callFunc 44 args).run Seq.prog w = .ok (.enter 44 args) w := enters_of Seq.func44 (by kernel_rfl) rfl args w
@[simp] theorem Seq.call45 (args : Array Value) (w : World) : (callFunc 45 args).run Seq.prog w = .ok (.enter 45 args) w := enters_of Seq.func45 (by kernel_rfl) rfl args w
@[simp] theorem Seq.call46 (args : Array Value) (w : World) : (callFunc 46 args).run Seq.prog w = .ok (.enter 46 args) w := enters_of Seq.func46 (by kernel_rfl) rfl args w
@[simp] theorem Seq.call47 (args : Array Value) (w : World) : (callFunc 47 args).run Seq.prog w = .ok (.enter 47 args) w := enters_of Seq.func47 (by kernel_rfl) rfl args w
@[simp] theorem Seq.call48 (args : Array Value) (w : World) : (callFunc 48 args).run Seq.prog w = .ok (.enter 48 args) w := enters_of Seq.func48 (by kernel_rfl) rfl args w
@[simp] theorem Seq.call49 (args : Array Value) (w : World) : (callFunc 49 args).run Seq.prog w = .ok (.enter 49 args) w := enters_of Seq.func49 (by kernel_rfl) rfl args w
@[simp] theorem Seq.call50 (args : Array Value) (w : World) : (callFunc 50 args).run Seq.prog w = .ok (.enter 50 args) w := enters_of Seq.func50 (by kernel_rfl) rfl args w
@[simp] theorem Seq.call52 (args : Array Value) (w : World) : (callFunc 52 args).run Seq.prog w = .ok (.enter 52 args) w := enters_of Seq.func52 (by kernel_rfl) rfl args w
@[simp] theorem Seq.call53 (args : Array Value) (w : World) : (callFunc 53 args).run Seq.prog w = .ok (.enter 53 args) w := enters_of Seq.func53 (by kernel_rfl) rfl args w
@[simp] theorem Seq.call54 (args : Array Value) (w : World) : (callFunc 54 args).run Seq.prog w = .ok (.enter 54 args) w := enters_of Seq.func54 (by kernel_rfl) rfl args w
@[simp] theorem Seq.call68 (args : Array Value) (w : World) : (callFunc 68 args).run Seq.prog w = .ok (.enter 68 args) w := enters_of Seq.func68 (by kernel_rfl) rfl args w
@[simp] theorem Seq.call69 (args : Array Value) (w : World) : (callFunc 69 args).run Seq.prog w = .ok (.enter 69 args) w := enters_of Seq.func69 (by kernel_rfl) rfl args w
@[simp] theorem Seq.call70 (args : Array Value) (w : World) : (callFunc 70 args).run Seq.prog w = .ok (.enter 70 args) w := enters_of Seq.func70 (by kernel_rfl) rfl args w
@[simp] theorem Seq.call76 (args : Array Value) (w : World) : (callFunc 76 args).run Seq.prog w = .ok (.enter 76 args) w := enters_of Seq.func76 (by kernel_rfl) rfl args w
@[simp] theorem Seq.call77 (args : Array Value) (w : World) : (callFunc 77 args).run Seq.prog w = .ok (.enter 77 args) w := enters_of Seq.func77 (by kernel_rfl) rfl args w
@[simp] theorem Seq.call78 (args : Array Value) (w : World) : (callFunc 78 args).run Seq.prog w = .ok (.enter 78 args) w := enters_of Seq.func78 (by kernel_rfl) rfl args w
@[simp] theorem Seq.call79 (args : Array Value) (w : World) : (callFunc 79 args).run Seq.prog w = .ok (.enter 79 args) w := enters_of Seq.func79 (by kernel_rfl) rfl args w
@[simp] theorem Seq.call80 (args : Array Value) (w : World) : (callFunc 80 args).run Seq.prog w = .ok (.enter 80 args) w := enters_of Seq.func80 (by kernel_rfl) rfl args w
@[simp] theorem Seq.call81 (args : Array Value) (w : World) : (callFunc 81 args).run Seq.prog w = .ok (.enter 81 args) w := enters_of Seq.func81 (by kernel_rfl) rfl args w
@[simp] theorem Seq.call82 (args : Array Value) (w : World) : (callFunc 82 args).run Seq.prog w = .ok (.enter 82 args) w := enters_of Seq.func82 (by kernel_rfl) rfl args w
@[simp] theorem Seq.call83 (args : Array Value) (w : World) : (callFunc 83 args).run Seq.prog w = .ok (.enter 83 args) w := enters_of Seq.func83 (by kernel_rfl) rfl args w
@[simp] theorem Seq.call84 (args : Array Value) (w : World) : (callFunc 84 args).run Seq.prog w = .ok (.enter 84 args) w := enters_of Seq.func84 (by kernel_rfl) rfl args w
@[simp] theorem Seq.call85 (args : Array Value) (w : World) : (callFunc 85 args).run Seq.prog w = .ok (.enter 85 args) w := enters_of Seq.func85 (by kernel_rfl) rfl args w
@[simp] theorem Seq.call86 (args : Array Value) (w : World) : (callFunc 86 args).run Seq.prog w = .ok (.enter 86 args) w := enters_of Seq.func86 (by kernel_rfl) rfl args w
@[simp] theorem Seq.call87 (args : Array Value) (w : World) : (callFunc 87 args).run Seq.prog w = .ok (.enter 87 args) w := enters_of Seq.func87 (by kernel_rfl) rfl args w
@[simp] theorem Seq.call89 (args : Array Value) (w : World) : (callFunc 89 args).run Seq.prog w = .ok (.enter 89 args) w := enters_of Seq.func89 (by kernel_rfl) rfl args w
@[simp] theorem Seq.call94 (args : Array Value) (w : World) : (callFunc 94 args).run Seq.prog w = .ok (.enter 94 args) w := enters_of Seq.func94 (by kernel_rfl) rfl args w
@[simp] theorem Seq.call96 (args : Array Value) (w : World) : (callFunc 96 args).run Seq.prog w = .ok (.enter 96 args) w := enters_of Seq.func96 (by kernel_rfl) rfl args w
@[simp] theorem Seq.call97 (args : Array Value) (w : World) : (callFunc 97 args).run Seq.prog w = .ok (.enter 97 args) w := enters_of Seq.func97 (by kernel_rfl) rfl args w
@[simp] theorem Seq.call98 (args : Array Value) (w : World) : (callFunc 98 args).run Seq.prog w = .ok (.enter 98 args) w := enters_of Seq.func98 (by kernel_rfl) rfl args w
@[simp] theorem Seq.call101 (args : Array Value) (w : World) : (callFunc 101 args).run Seq.prog w = .ok (.enter 101 args) w := enters_of Seq.func101 (by kernel_rfl) rfl args w
@[simp] theorem Seq.call102 (args : Array Value) (w : World) : (callFunc 102 args).run Seq.prog w = .ok (.enter 102 args) w := enters_of Seq.func102 (by kernel_rfl) rfl args w
@[simp] theorem Seq.call103 (args : Array Value) (w : World) : (callFunc 103 args).run Seq.prog w = .ok (.enter 103 args) w := enters_of Seq.func103 (by kernel_rfl) rfl args w
@[simp] theorem Seq.call104 (args : Array Value) (w : World) : (callFunc 104 args).run Seq.prog w = .ok (.enter 104 args) w := enters_of Seq.func104 (by kernel_rfl) rfl args w
@[simp] theorem Seq.call22 (args : Array Value) (w : World) : (callFunc 22 args).run Seq.prog w = .ok (.enter 22 args) w := enters_of Seq.func22 (by kernel_rfl) rfl args w
end Go.Proofs.Ythifdfbdekkmgaa
