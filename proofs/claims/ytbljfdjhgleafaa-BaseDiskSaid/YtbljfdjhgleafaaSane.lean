/- The documented examples. -/
import Derived.Test.YtbljfdjhgleafaaMine
namespace Go.Proofs.Ytbljfdjhgleafaa
open Go.RowKit

def sd1 : Dk := (Dk.new.write 0 0 [97, 98, 99]).1
def sd2 : Dk := (sd1.sync 0).1
def sd3 : Dk := (sd2.write 0 1 [88, 89]).1
def sd4 : Dk := sd3.crash [1]
def sd5 : Dk := sd4.start
def sc1 : Dk := sd3.crash [0]
def sc2 : Dk := sc1.start
def sc3 : Dk := (sc2.write 1 62 [97, 98, 99, 100]).1
def sc4 : Dk := sc3.crash [0, 1]
def sc5 : Dk := sc4.start
def sc6 : Dk := (sc5.write 16 0 []).1

theorem e1 : (Dk.new.write 0 0 [97, 98, 99]).2 = 0 := by kernel_rfl
theorem e2 : (sd1.sync 0).2 = 0 := by kernel_rfl
theorem e4 : sd4.down = true := by kernel_rfl
theorem e4r : (sd4.read 0 0 9).2 = 8 := by kernel_rfl
theorem e5r : sd5.read 0 0 9 = ([97, 88, 89], 0) := by kernel_rfl
theorem e7r : sc2.read 0 1 9 = ([98, 99], 0) := by kernel_rfl
theorem e8 : (sc2.write 1 62 [97, 98, 99, 100]).2 = 0 := by kernel_rfl
theorem e9r : sc5.read 1 60 100 = ([0, 0, 0, 0, 99, 100], 0) := by kernel_rfl
theorem e9s : sc5.size 1 = 66 := by kernel_rfl
theorem e10 : (sc5.write 16 0 []).2 = 1 := by kernel_rfl
theorem e11 : (sc6.write 1 16777216 [97]).2 = 6 := by kernel_rfl
theorem r0 : Dk.new.R = 0 := by kernel_rfl
theorem r2 : sd2.R = 5 := by kernel_rfl
theorem r3 : sc2.R = 9 := by kernel_rfl
theorem r5 : sc5.R = 15 := by kernel_rfl
theorem r6 : sc6.R = 15 := by kernel_rfl

end Go.Proofs.Ytbljfdjhgleafaa
