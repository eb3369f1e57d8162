/- SearchTiles answers true whatever its arguments are, in every heap in which it is called, whatever the tape says, and its arguments read behind the call as before. No condition. -/
import Derived.Test.YtmdeiglnjimlnaaSearchTilesOver
namespace Go.Proofs.Ytmdeiglnjimlnaa.searchTiles
theorem proved : Rows.SearchTilesSaid := over
#print axioms proved
end Go.Proofs.Ytmdeiglnjimlnaa.searchTiles
