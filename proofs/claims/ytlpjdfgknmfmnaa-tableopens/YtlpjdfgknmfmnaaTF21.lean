/- BK6a, joined. -/
import Derived.Test.YtlpjdfgknmfmnaaTF2
/- A frame of 113 places, by its size. -/
namespace Go.Proofs.Ytlpjdfgknmfmnaa
open Go.RowKit
theorem arr_cut {l : List Value} {n : Nat} (h : l.length = n + 1) : ∃ x r, l = x :: r ∧ r.length = n := by
  cases l with
  | nil => simp at h
  | cons x r => exact ⟨x, r, rfl, by simpa using h⟩
set_option maxRecDepth 100000 in
theorem arr113 {cs : Array Value} (h : cs.size = 113) : ∃ (u0 u1 u2 u3 u4 u5 u6 u7 u8 u9 u10 u11 u12 u13 u14 u15 u16 u17 u18 u19 u20 u21 u22 u23 u24 u25 u26 u27 u28 u29 u30 u31 u32 u33 u34 u35 u36 u37 u38 u39 u40 u41 u42 u43 u44 u45 u46 u47 u48 u49 u50 u51 u52 u53 u54 u55 u56 u57 u58 u59 u60 u61 u62 u63 u64 u65 u66 u67 u68 u69 u70 u71 u72 u73 u74 u75 u76 u77 u78 u79 u80 u81 u82 u83 u84 u85 u86 u87 u88 u89 u90 u91 u92 u93 u94 u95 u96 u97 u98 u99 u100 u101 u102 u103 u104 u105 u106 u107 u108 u109 u110 u111 u112 : Value), cs = #[u0, u1, u2, u3, u4, u5, u6, u7, u8, u9, u10, u11, u12, u13, u14, u15, u16, u17, u18, u19, u20, u21, u22, u23, u24, u25, u26, u27, u28, u29, u30, u31, u32, u33, u34, u35, u36, u37, u38, u39, u40, u41, u42, u43, u44, u45, u46, u47, u48, u49, u50, u51, u52, u53, u54, u55, u56, u57, u58, u59, u60, u61, u62, u63, u64, u65, u66, u67, u68, u69, u70, u71, u72, u73, u74, u75, u76, u77, u78, u79, u80, u81, u82, u83, u84, u85, u86, u87, u88, u89, u90, u91, u92, u93, u94, u95, u96, u97, u98, u99, u100, u101, u102, u103, u104, u105, u106, u107, u108, u109, u110, u111, u112] := by
  obtain ⟨l⟩ := cs
  have h0 : l.length = 113 := h
  obtain ⟨u0, r0, rfl, h1⟩ := arr_cut (n := 112) h0
  obtain ⟨u1, r1, rfl, h2⟩ := arr_cut (n := 111) h1
  obtain ⟨u2, r2, rfl, h3⟩ := arr_cut (n := 110) h2
  obtain ⟨u3, r3, rfl, h4⟩ := arr_cut (n := 109) h3
  obtain ⟨u4, r4, rfl, h5⟩ := arr_cut (n := 108) h4
  obtain ⟨u5, r5, rfl, h6⟩ := arr_cut (n := 107) h5
  obtain ⟨u6, r6, rfl, h7⟩ := arr_cut (n := 106) h6
  obtain ⟨u7, r7, rfl, h8⟩ := arr_cut (n := 105) h7
  obtain ⟨u8, r8, rfl, h9⟩ := arr_cut (n := 104) h8
  obtain ⟨u9, r9, rfl, h10⟩ := arr_cut (n := 103) h9
  obtain ⟨u10, r10, rfl, h11⟩ := arr_cut (n := 102) h10
  obtain ⟨u11, r11, rfl, h12⟩ := arr_cut (n := 101) h11
  obtain ⟨u12, r12, rfl, h13⟩ := arr_cut (n := 100) h12
  obtain ⟨u13, r13, rfl, h14⟩ := arr_cut (n := 99) h13
  obtain ⟨u14, r14, rfl, h15⟩ := arr_cut (n := 98) h14
  obtain ⟨u15, r15, rfl, h16⟩ := arr_cut (n := 97) h15
  obtain ⟨u16, r16, rfl, h17⟩ := arr_cut (n := 96) h16
  obtain ⟨u17, r17, rfl, h18⟩ := arr_cut (n := 95) h17
  obtain ⟨u18, r18, rfl, h19⟩ := arr_cut (n := 94) h18
  obtain ⟨u19, r19, rfl, h20⟩ := arr_cut (n := 93) h19
  obtain ⟨u20, r20, rfl, h21⟩ := arr_cut (n := 92) h20
  obtain ⟨u21, r21, rfl, h22⟩ := arr_cut (n := 91) h21
  obtain ⟨u22, r22, rfl, h23⟩ := arr_cut (n := 90) h22
  obtain ⟨u23, r23, rfl, h24⟩ := arr_cut (n := 89) h23
  obtain ⟨u24, r24, rfl, h25⟩ := arr_cut (n := 88) h24
  obtain ⟨u25, r25, rfl, h26⟩ := arr_cut (n := 87) h25
  obtain ⟨u26, r26, rfl, h27⟩ := arr_cut (n := 86) h26
  obtain ⟨u27, r27, rfl, h28⟩ := arr_cut (n := 85) h27
  obtain ⟨u28, r28, rfl, h29⟩ := arr_cut (n := 84) h28
  obtain ⟨u29, r29, rfl, h30⟩ := arr_cut (n := 83) h29
  obtain ⟨u30, r30, rfl, h31⟩ := arr_cut (n := 82) h30
  obtain ⟨u31, r31, rfl, h32⟩ := arr_cut (n := 81) h31
  obtain ⟨u32, r32, rfl, h33⟩ := arr_cut (n := 80) h32
  obtain ⟨u33, r33, rfl, h34⟩ := arr_cut (n := 79) h33
  obtain ⟨u34, r34, rfl, h35⟩ := arr_cut (n := 78) h34
  obtain ⟨u35, r35, rfl, h36⟩ := arr_cut (n := 77) h35
  obtain ⟨u36, r36, rfl, h37⟩ := arr_cut (n := 76) h36
  obtain ⟨u37, r37, rfl, h38⟩ := arr_cut (n := 75) h37
  obtain ⟨u38, r38, rfl, h39⟩ := arr_cut (n := 74) h38
  obtain ⟨u39, r39, rfl, h40⟩ := arr_cut (n := 73) h39
  obtain ⟨u40, r40, rfl, h41⟩ := arr_cut (n := 72) h40
  obtain ⟨u41, r41, rfl, h42⟩ := arr_cut (n := 71) h41
  obtain ⟨u42, r42, rfl, h43⟩ := arr_cut (n := 70) h42
  obtain ⟨u43, r43, rfl, h44⟩ := arr_cut (n := 69) h43
  obtain ⟨u44, r44, rfl, h45⟩ := arr_cut (n := 68) h44
  obtain ⟨u45, r45, rfl, h46⟩ := arr_cut (n := 67) h45
  obtain ⟨u46, r46, rfl, h47⟩ := arr_cut (n := 66) h46
  obtain ⟨u47, r47, rfl, h48⟩ := arr_cut (n := 65) h47
  obtain ⟨u48, r48, rfl, h49⟩ := arr_cut (n := 64) h48
  obtain ⟨u49, r49, rfl, h50⟩ := arr_cut (n := 63) h49
  obtain ⟨u50, r50, rfl, h51⟩ := arr_cut (n := 62) h50
  obtain ⟨u51, r51, rfl, h52⟩ := arr_cut (n := 61) h51
  obtain ⟨u52, r52, rfl, h53⟩ := arr_cut (n := 60) h52
  obtain ⟨u53, r53, rfl, h54⟩ := arr_cut (n := 59) h53
  obtain ⟨u54, r54, rfl, h55⟩ := arr_cut (n := 58) h54
  obtain ⟨u55, r55, rfl, h56⟩ := arr_cut (n := 57) h55
  obtain ⟨u56, r56, rfl, h57⟩ := arr_cut (n := 56) h56
  obtain ⟨u57, r57, rfl, h58⟩ := arr_cut (n := 55) h57
  obtain ⟨u58, r58, rfl, h59⟩ := arr_cut (n := 54) h58
  obtain ⟨u59, r59, rfl, h60⟩ := arr_cut (n := 53) h59
  obtain ⟨u60, r60, rfl, h61⟩ := arr_cut (n := 52) h60
  obtain ⟨u61, r61, rfl, h62⟩ := arr_cut (n := 51) h61
  obtain ⟨u62, r62, rfl, h63⟩ := arr_cut (n := 50) h62
  obtain ⟨u63, r63, rfl, h64⟩ := arr_cut (n := 49) h63
  obtain ⟨u64, r64, rfl, h65⟩ := arr_cut (n := 48) h64
  obtain ⟨u65, r65, rfl, h66⟩ := arr_cut (n := 47) h65
  obtain ⟨u66, r66, rfl, h67⟩ := arr_cut (n := 46) h66
  obtain ⟨u67, r67, rfl, h68⟩ := arr_cut (n := 45) h67
  obtain ⟨u68, r68, rfl, h69⟩ := arr_cut (n := 44) h68
  obtain ⟨u69, r69, rfl, h70⟩ := arr_cut (n := 43) h69
  obtain ⟨u70, r70, rfl, h71⟩ := arr_cut (n := 42) h70
  obtain ⟨u71, r71, rfl, h72⟩ := arr_cut (n := 41) h71
  obtain ⟨u72, r72, rfl, h73⟩ := arr_cut (n := 40) h72
  obtain ⟨u73, r73, rfl, h74⟩ := arr_cut (n := 39) h73
  obtain ⟨u74, r74, rfl, h75⟩ := arr_cut (n := 38) h74
  obtain ⟨u75, r75, rfl, h76⟩ := arr_cut (n := 37) h75
  obtain ⟨u76, r76, rfl, h77⟩ := arr_cut (n := 36) h76
  obtain ⟨u77, r77, rfl, h78⟩ := arr_cut (n := 35) h77
  obtain ⟨u78, r78, rfl, h79⟩ := arr_cut (n := 34) h78
  obtain ⟨u79, r79, rfl, h80⟩ := arr_cut (n := 33) h79
  obtain ⟨u80, r80, rfl, h81⟩ := arr_cut (n := 32) h80
  obtain ⟨u81, r81, rfl, h82⟩ := arr_cut (n := 31) h81
  obtain ⟨u82, r82, rfl, h83⟩ := arr_cut (n := 30) h82
  obtain ⟨u83, r83, rfl, h84⟩ := arr_cut (n := 29) h83
  obtain ⟨u84, r84, rfl, h85⟩ := arr_cut (n := 28) h84
  obtain ⟨u85, r85, rfl, h86⟩ := arr_cut (n := 27) h85
  obtain ⟨u86, r86, rfl, h87⟩ := arr_cut (n := 26) h86
  obtain ⟨u87, r87, rfl, h88⟩ := arr_cut (n := 25) h87
  obtain ⟨u88, r88, rfl, h89⟩ := arr_cut (n := 24) h88
  obtain ⟨u89, r89, rfl, h90⟩ := arr_cut (n := 23) h89
  obtain ⟨u90, r90, rfl, h91⟩ := arr_cut (n := 22) h90
  obtain ⟨u91, r91, rfl, h92⟩ := arr_cut (n := 21) h91
  obtain ⟨u92, r92, rfl, h93⟩ := arr_cut (n := 20) h92
  obtain ⟨u93, r93, rfl, h94⟩ := arr_cut (n := 19) h93
  obtain ⟨u94, r94, rfl, h95⟩ := arr_cut (n := 18) h94
  obtain ⟨u95, r95, rfl, h96⟩ := arr_cut (n := 17) h95
  obtain ⟨u96, r96, rfl, h97⟩ := arr_cut (n := 16) h96
  obtain ⟨u97, r97, rfl, h98⟩ := arr_cut (n := 15) h97
  obtain ⟨u98, r98, rfl, h99⟩ := arr_cut (n := 14) h98
  obtain ⟨u99, r99, rfl, h100⟩ := arr_cut (n := 13) h99
  obtain ⟨u100, r100, rfl, h101⟩ := arr_cut (n := 12) h100
  obtain ⟨u101, r101, rfl, h102⟩ := arr_cut (n := 11) h101
  obtain ⟨u102, r102, rfl, h103⟩ := arr_cut (n := 10) h102
  obtain ⟨u103, r103, rfl, h104⟩ := arr_cut (n := 9) h103
  obtain ⟨u104, r104, rfl, h105⟩ := arr_cut (n := 8) h104
  obtain ⟨u105, r105, rfl, h106⟩ := arr_cut (n := 7) h105
  obtain ⟨u106, r106, rfl, h107⟩ := arr_cut (n := 6) h106
  obtain ⟨u107, r107, rfl, h108⟩ := arr_cut (n := 5) h107
  obtain ⟨u108, r108, rfl, h109⟩ := arr_cut (n := 4) h108
  obtain ⟨u109, r109, rfl, h110⟩ := arr_cut (n := 3) h109
  obtain ⟨u110, r110, rfl, h111⟩ := arr_cut (n := 2) h110
  obtain ⟨u111, r111, rfl, h112⟩ := arr_cut (n := 1) h111
  obtain ⟨u112, r112, rfl, h113⟩ := arr_cut (n := 0) h112
  obtain rfl := List.length_eq_zero_iff.1 h113
  exact ⟨u0, u1, u2, u3, u4, u5, u6, u7, u8, u9, u10, u11, u12, u13, u14, u15, u16, u17, u18, u19, u20, u21, u22, u23, u24, u25, u26, u27, u28, u29, u30, u31, u32, u33, u34, u35, u36, u37, u38, u39, u40, u41, u42, u43, u44, u45, u46, u47, u48, u49, u50, u51, u52, u53, u54, u55, u56, u57, u58, u59, u60, u61, u62, u63, u64, u65, u66, u67, u68, u69, u70, u71, u72, u73, u74, u75, u76, u77, u78, u79, u80, u81, u82, u83, u84, u85, u86, u87, u88, u89, u90, u91, u92, u93, u94, u95, u96, u97, u98, u99, u100, u101, u102, u103, u104, u105, u106, u107, u108, u109, u110, u111, u112, rfl⟩
end Go.Proofs.Ytlpjdfgknmfmnaa
